/- The program's words that ask shards to hold a job. The specification's words that ask shards to hold a job. -/
import Derived.Test.YteniflajiklffaaShal
import Derived.Test.YteniflajiklffaaShaj
import Derived.Test.YteniflajiklffaaShag
import Derived.Test.YteniflajiklffaaShad
namespace Go.Proofs.Yteniflajiklffaa.cos
open Go Go.RowKit Go.Proofs.Yteniflajiklffaa.base Go.Proofs.Yteniflajiklffaa.pairs Go.Proofs.Yteniflajiklffaa.ords Go.Proofs.Yteniflajiklffaa.lay Go.Proofs.Yteniflajiklffaa.wds
set_option linter.unusedVariables false
set_option linter.unusedSimpArgs false

def RetW (w : World) (x : List Wd) (e : Ending) (w' : World) : Prop := ∃ g m cap q, e = .returned (.slice (some ⟨g, 0, none⟩) m cap) ∧ OwnG 39 wordR w' (.slice (some ⟨g, 0, none⟩) m cap) x q ∧ (∀ k ∈ g :: blocksOf q, w.heap.size ≤ k) ∧ Below w.heap.size w w'
theorem RetW.v {w w' : World} {x : List Wd} {e : Ending} (h : RetW w x e w') : RetV wordsR w x e w' := by
  obtain ⟨g, m, cap, q, rfl, hO, hq, hb⟩ := h
  exact ⟨_, _, rfl, ⟨_, q, rfl, rfl, hO⟩, fun bb hb => hq bb (by simpa [Value.ownBlock] using hb), hb⟩
theorem row_new0 (w : World) : (w.alloc (.cells #[] 39)).ownsRow 0 39 5 (.slice (some ⟨w.heap.size, 0, none⟩) 0 0) 0 [] := World.ownsRow_made w #[] 0 (Nat.zero_le _) (Nat.zero_le _) (by simp)
theorem ownG_row0 {α : Type} {R : Rd α} {ty : TypeId} {w : World} {g n : Nat} {k : Nat} (h : w.ownsRow k ty R.size (.slice (some ⟨g, 0, none⟩) 0 n) 0 []) : OwnG ty R w (.slice (some ⟨g, 0, none⟩) 0 n) [] [] := by
  refine ⟨rfl, ?_, fun i hi => absurd hi (by simp), by simp [blocksOf, Value.ownBlock]⟩
  obtain ⟨h1, h2⟩ := h
  refine ⟨h1, ?_⟩
  rcases h2 with h2 | ⟨g', c', cur, h2, h3, h4⟩
  · exact .inl h2
  · exact .inr ⟨g', c', cur, h2, Nat.zero_le _, h4⟩
theorem _root_.Go.Proofs.Yteniflajiklffaa.ords.OwnZ.kept {w w' : World} {base g n cap : Nat} {zs : List Int} (h : OwnZ w base g n cap zs) (hb : w'.heap[g]? = w.heap[g]?) : OwnZ w' base g n cap zs := by
  obtain ⟨h1, h2, h3⟩ := h
  refine ⟨h1, h2, ?_⟩
  rcases h3 with h3 | ⟨g', c', cur, e, h4, h5, h6⟩
  · exact .inl h3
  · cases e
    exact .inr ⟨g, _, cur, rfl, h4, hb.trans h5, h6⟩
theorem putI_len (l : List Int) (x : Int) : (putI l x).length ≤ l.length + 1 := by
  unfold putI
  split
  · omega
  · have h1 : (l.filter fun z => decide (z < x)).length + (l.filter fun z => decide (x < z)).length ≤ l.length := by
      induction l with
      | nil => simp
      | cons y l ih =>
        have ih2 : ∀ l : List Int, (l.filter fun z => decide (z < x)).length + (l.filter fun z => decide (x < z)).length ≤ l.length := by
          intro l
          induction l with
          | nil => simp
          | cons y l ih => by_cases h1 : y < x <;> by_cases h2 : x < y <;> simp [List.filter_cons, h1, h2] <;> omega
        exact ih2 _
    simp; omega
theorem shards_len (n : Int) (ops : List Od) {k : Nat} (h : ops.length ≤ k) : (shardsOf n ops).length ≤ k := by
  have : ∀ (l : List Od) (u : List Int), (l.foldl (fun u o => putI u (shardOf o.2.1 n)) u).length ≤ u.length + l.length := by
    intro l
    induction l with
    | nil => intro u; simp
    | cons o l ih =>
      intro u
      have h1 := ih (putI u (shardOf o.2.1 n))
      have h2 := putI_len u (shardOf o.2.1 n)
      simp only [List.foldl_cons, List.length_cons]
      omega
  have h1 := this ops []
  unfold shardsOf
  simp at h1
  omega
set_option maxRecDepth 100000 in
set_option maxHeartbeats 1000000 in
theorem i_holds (b off : Nat) (tx st n : Int) (ob ooff ol oc : Nat) (ya : Option Addr) (yl yc : Nat) (ops : List Od) (yes : List Int) (w : World) (c0 : w.cell? ⟨b, off, none⟩ = some (.int .i64 tx)) (c1 : w.cell? ⟨b, off + 1, none⟩ = some (.slice (some ⟨ob, ooff, none⟩) ol oc)) (c3 : w.cell? ⟨b, off + 3, none⟩ = some (.slice ya yl yc)) (htw : (Lit.int .i64 tx).wf = true) (hO0 : SlO w (some ⟨ob, ooff, none⟩) ol ops) (hY : SlZ w ya yl yes) (hks : ∀ p ∈ ops, p.2.1.size ≤ 1099511627776) (hsz : ol ≤ 8) (hn : (Lit.int .i64 n).wf = true) :
    Calls Try.prog 32 #[.pointer (some ⟨b, off, none⟩), .int .i64 n] w (RetW w (holdsW n tx ops yes (shardsOf n ops))) := by
  obtain ⟨W, hW⟩ : ∃ W, w.alloc (.cells #[] 39) = W := ⟨_, rfl⟩
  have hB : Below w.heap.size w W := by rw [← hW]; exact below_make
  have hr0 := row_new0 w
  rw [hW] at hr0
  have hsW : w.heap.size < W.heap.size := by rw [← hW]; simp
  have hbl := World.block_lt_of_cell? _ _ c0
  have HSH := Hid.mk' (impl_shardsOf ob ooff ol oc ops n W (hO0.below hB) hks (by omega) hn)
  have HOF := Hid.mk' (fun s (hs : (Lit.int .i64 s).wf = true) wx (hx : Below w.heap.size w wx) => impl_opsFor ob ooff ol oc ops s n wx (hO0.below hx) hks (by omega) hn hs)
  have HCN := Hid.mk' (fun s wx (hx : Below w.heap.size w wx) => i_contains ya yl yc yes s wx (hY.below hx))
  have hshl : (shardsOf n ops).length ≤ 8 := shards_len n ops (by have := hO0.1; omega)
  have hshw : ∀ s ∈ shardsOf n ops, (Lit.int .i64 s).wf = true := fun s hs => by
    obtain ⟨o, _, rfl⟩ := (shards_mem n ops s).1 hs
    exact shardOf_wf _ _
  have x0 := (hB.cell (p := ⟨b, off, none⟩) hbl).trans c0
  have x1 := (hB.cell (p := ⟨b, off + 1, none⟩) hbl).trans c1
  have C0 := Hid.mk' c0
  have C1 := Hid.mk' c1
  have C3 := Hid.mk' c3
  have HW := Hid.mk' hW
  have HSW := Hid.mk' hshw
  rw [← hW] at x1
  clear hW hO0 hY hks c0 c1 c3 x0 hshw hn
  generalize shardsOf n ops = sh at *
  go_enter Try.func32, Try.ntmps32
  go_wp2_with fail
  rw [HW.out]
  refine HSH.out.mono ?_
  rintro e w1 ⟨gs, ns, cs, rfl, hZ, hb1⟩
  have hB1 := hB.trans (hb1.mono hB.size)
  have hO1 := ownG_row0 (R := wordR) (ty := 39) hr0
  have hO1b := hO1.below hb1
  have hZs := hZ.sl
  have hZl := hZ.1
  have hZlt := hZ.lt
  clear x1 HSH hO1 hr0
  go_wp2_with fail
  go_loopw [16, 5] (fun i v wr => ∃ (k g m cap : Nat) (q : Parts), k ≤ ns ∧ i = .int .i64 (k : Int) ∧ v = .slice (some ⟨g, 0, none⟩) m cap ∧ OwnG 39 wordR wr (.slice (some ⟨g, 0, none⟩) m cap) (holdsW n tx ops yes (sh.take k)) q ∧ (∀ bb ∈ g :: blocksOf q, w.heap.size ≤ bb) ∧ g ≠ gs ∧ Below w.heap.size w wr ∧ wr.heap[gs]? = w1.heap[gs]? ∧ gs < wr.heap.size) (fun i _ _ => ns - (intOf i).toNat)
  case atStart => exact ⟨0, w.heap.size, 0, 0, [], Nat.zero_le _, rfl, rfl, hO1b, fun bb hb => by simp [blocksOf] at hb; omega, by omega, hB1, rfl, hZlt.2⟩
  case round =>
    obtain ⟨k, g, m, cap, q, hk, rfl, rfl, hO, hq, hggs, hBw, hgsb, hgsl⟩ := hrel
    by_cases hlt : k < ns
    · have hltl : k < sh.length := by omega
      have hki : (k : Int) < (ns : Int) := by omega
      have hat := (hZ.kept hgsb).at k hltl
      have hsw := HSW.out _ (List.getElem_mem hltl)
      have HTK : Hid (sh.take (k + 1) = sh.take k ++ [sh[k]]) := List.take_succ_eq_append_getElem hltl
      have HML : Hid ((holdsW n tx ops yes (sh.take k)).length = m) := hO.nlen.symm
      have hmk : m ≤ 8 := by have h1 := holdsW_len n tx ops yes (sh.take k); rw [HML.out] at h1; simp at h1; omega
      have HSN := Hid.mk' (holdsW_snoc n tx ops yes (sh.take k) sh[k])
      rw [← HTK.out] at HSN
      generalize sh[k] = s at *
      have d0 := (hBw.cell (p := ⟨b, off, none⟩) hbl).trans C0.out
      have d1 := (hBw.cell (p := ⟨b, off + 1, none⟩) hbl).trans C1.out
      have d3 := (hBw.cell (p := ⟨b, off + 3, none⟩) hbl).trans C3.out
      have HC := Hid.mk' (HCN.out s wr hBw)
      have HO := Hid.mk' hO
      clear hO
      by_cases hin : s ∈ yes
      · have HR : Hid (holdsW n tx ops yes (sh.take (k + 1)) = holdsW n tx ops yes (sh.take k)) := by show _ = _; rw [HSN.out, if_pos hin]
        rw [decide_eq_true hin] at HC
        clear hin HSN
        go_wp2_with fail
        refine HC.out.mono ?_
        rintro e w2 ⟨rfl, hw2⟩
        replace hw2 := hw2.symm
        subst hw2
        go_wp2_with fail
        go_roundw
        case rel => exact ⟨k + 1, g, m, cap, q, by omega, by go_num, rfl, by rw [HR.out]; exact HO.out, hq, hggs, hBw, hgsb, hgsl⟩
        case measure => simp [intOf]; omega
      · have HR : Hid (holdsW n tx ops yes (sh.take (k + 1)) = holdsW n tx ops yes (sh.take k) ++ [(1, s, tx, opsFor s n ops, false)]) := by show _ = _; rw [HSN.out, if_neg hin]
        rw [decide_eq_false hin] at HC
        clear hin HSN
        have HOFs := Hid.mk' (fun wx hx => HOF.out s hsw wx hx)
        go_wp2_with fail
        refine HC.out.mono ?_
        rintro e w2 ⟨rfl, hw2⟩
        replace hw2 := hw2.symm
        subst hw2
        have HOF := Hid.mk' (fun wx (hx : Below wr.heap.size wr wx) => HOFs.out wx (hBw.trans (hx.mono hBw.size)))
        go_wp2_with fail
        have hdW : Below wr.heap.size wr wr.drew := (Below.refl _ _).drew
        refine last.wp_region_later (S := fun w' => Below w.heap.size w w') 16 (by kernel_rfl) (hBw.trans (hdW.mono hBw.size)) (fun hHeld0 => ?_)
        generalize hD : wr.drew = D at *
        clear hD
        refine last.wpAnyL_take (i := 0) (v := (.slice (some ⟨g, 0, none⟩) m cap)) rfl rfl (by kernel_rfl) (by kernel_rfl) (by kernel_rfl) (by kernel_rfl) (fun _ _ _ h => h) (Or.inl ⟨by rfl, ?_⟩) (by assumption) ?_
        · intro wq hSq; go_simp
        try simp only [Act.put, List.setIfInBounds_toArray, List.set_cons_zero, List.set_cons_succ]
        refine last.wpAnyL_take (i := 1) (v := (.int .i64 s)) rfl rfl (by kernel_rfl) (by kernel_rfl) (by kernel_rfl) (by kernel_rfl) (fun _ _ _ h => h) (Or.inl ⟨by rfl, ?_⟩) (by assumption) ?_
        · intro wq hSq; go_simp
        try simp only [Act.put, List.setIfInBounds_toArray, List.set_cons_zero, List.set_cons_succ]
        refine last.wpAnyL_take (i := 2) (v := (.pointer (some ⟨b, off, none⟩))) rfl rfl (by kernel_rfl) (by kernel_rfl) (by kernel_rfl) (by kernel_rfl) (fun _ _ _ h => h) (Or.inl ⟨by rfl, ?_⟩) (by assumption) ?_
        · intro wq hSq; go_simp
        try simp only [Act.put, List.setIfInBounds_toArray, List.set_cons_zero, List.set_cons_succ]
        refine last.wpAnyL_take (i := 3) (v := (.pointer (some ⟨b, off, none⟩))) rfl rfl (by kernel_rfl) (by kernel_rfl) (by kernel_rfl) (by kernel_rfl) (fun _ _ _ h => h) (Or.inl ⟨by rfl, ?_⟩) (by assumption) ?_
        · intro wq hSq; go_simp
        try simp only [Act.put, List.setIfInBounds_toArray, List.set_cons_zero, List.set_cons_succ]
        refine last.wpAnyL_take (i := 4) (v := (.pointer (some ⟨b, off, none⟩))) rfl rfl (by kernel_rfl) (by kernel_rfl) (by kernel_rfl) (by kernel_rfl) (fun _ _ _ h => h) (Or.inl ⟨by rfl, ?_⟩) (by assumption) ?_
        · intro wq hSq; go_simp
        try simp only [Act.put, List.setIfInBounds_toArray, List.set_cons_zero, List.set_cons_succ]
        refine last.wpAnyL_take (i := 5) (v := (.int .i64 tx)) rfl rfl (by kernel_rfl) (by kernel_rfl) (by kernel_rfl) (by kernel_rfl) (fun _ _ _ h => h) (Or.inl ⟨by rfl, ?_⟩) (by assumption) ?_
        · intro wq hSq; have q := (hSq.cell (p := ⟨b, off, none⟩) hbl).trans C0.out; go_simp
        try simp only [Act.put, List.setIfInBounds_toArray, List.set_cons_zero, List.set_cons_succ]
        refine last.wpAnyL_take (i := 6) (v := (.pointer (some ⟨b, off, none⟩))) rfl rfl (by kernel_rfl) (by kernel_rfl) (by kernel_rfl) (by kernel_rfl) (fun _ _ _ h => h) (Or.inl ⟨by rfl, ?_⟩) (by assumption) ?_
        · intro wq hSq; go_simp
        try simp only [Act.put, List.setIfInBounds_toArray, List.set_cons_zero, List.set_cons_succ]
        refine last.wpAnyL_take (i := 7) (v := (.pointer (some ⟨b, off, none⟩))) rfl rfl (by kernel_rfl) (by kernel_rfl) (by kernel_rfl) (by kernel_rfl) (fun _ _ _ h => h) (Or.inl ⟨by rfl, ?_⟩) (by assumption) ?_
        · intro wq hSq; go_simp
        try simp only [Act.put, List.setIfInBounds_toArray, List.set_cons_zero, List.set_cons_succ]
        refine last.wpAnyL_take (i := 8) (v := (.pointer (some ⟨b, off + 1, none⟩))) rfl rfl (by kernel_rfl) (by kernel_rfl) (by kernel_rfl) (by kernel_rfl) (fun _ _ _ h => h) (Or.inl ⟨by rfl, ?_⟩) (by assumption) ?_
        · intro wq hSq; go_simp
        try simp only [Act.put, List.setIfInBounds_toArray, List.set_cons_zero, List.set_cons_succ]
        refine last.wpAnyL_take (i := 9) (v := (.slice (some ⟨ob, ooff, none⟩) ol oc)) rfl rfl (by kernel_rfl) (by kernel_rfl) (by kernel_rfl) (by kernel_rfl) (fun _ _ _ h => h) (Or.inl ⟨by rfl, ?_⟩) (by assumption) ?_
        · intro wq hSq; have q := (hSq.cell (p := ⟨b, off + 1, none⟩) hbl).trans C1.out; go_simp
        try simp only [Act.put, List.setIfInBounds_toArray, List.set_cons_zero, List.set_cons_succ]
        refine last.wpAnyL_take (i := 10) (v := (.int .i64 s)) rfl rfl (by kernel_rfl) (by kernel_rfl) (by kernel_rfl) (by kernel_rfl) (fun _ _ _ h => h) (Or.inl ⟨by rfl, ?_⟩) (by assumption) ?_
        · intro wq hSq; go_simp
        try simp only [Act.put, List.setIfInBounds_toArray, List.set_cons_zero, List.set_cons_succ]
        refine last.wpAnyL_take (i := 11) (v := (.int .i64 n)) rfl rfl (by kernel_rfl) (by kernel_rfl) (by kernel_rfl) (by kernel_rfl) (fun _ _ _ h => h) (Or.inl ⟨by rfl, ?_⟩) (by assumption) ?_
        · intro wq hSq; go_simp
        try simp only [Act.put, List.setIfInBounds_toArray, List.set_cons_zero, List.set_cons_succ]
        refine last.wpAnyL_one (i := 12) (o := { dst := some 39, op := Op.call { callee := Callee.value (Operand.func 12), args := #[Operand.tmp 36, Operand.tmp 37, Operand.tmp 38], argTypes := #[28, 3, 3] }, type := 28, pos := "l11_coord.go:268", after := #[{ on := 9, ground := Ground.data }, { on := 10, ground := Ground.data }, { on := 11, ground := Ground.data }], guard := none }) (by kernel_rfl) rfl (fun K hK => ?_)
        refine stepg.call3 rfl 12 (.tmp 36) (.tmp 37) (.tmp 38) _ rfl (fun _ _ => rfl) (.slice (some ⟨ob, ooff, none⟩) ol oc) (.int .i64 s) (.int .i64 n) (by kernel_rfl) (by kernel_rfl) (by kernel_rfl) _ (HOF.out D hdW) ?_
        rintro e w3 ⟨go, no, co, rfl, hOO, hb3⟩
        refine ⟨_, rfl, ?_⟩
        have hB3 : Below wr.heap.size wr w3 := hdW.trans (hb3.mono hdW.size)
        have hDs := hdW.size
        refine hK.out _ _ ?_ (fun hHeld => ?_)
        · exact hBw.trans (hB3.mono hBw.size)
        clear hK K hHeld0
        have hHeld0 := hHeld
        clear hHeld
        try simp only [Act.put, List.setIfInBounds_toArray, List.set_cons_zero, List.set_cons_succ]
        refine last.wpAnyL_take (i := 13) (v := (.agg #[.int .i64 1, .int .i64 s, .int .i64 tx, .slice (some ⟨go, 0, none⟩) no co, .bool false])) rfl rfl (by kernel_rfl) (by kernel_rfl) (by kernel_rfl) (by kernel_rfl) (fun _ _ _ h => h) (Or.inl ⟨by rfl, ?_⟩) (by assumption) ?_
        · intro wq hSq; go_simp
        try simp only [Act.put, List.setIfInBounds_toArray, List.set_cons_zero, List.set_cons_succ]
        refine last.wpAnyL_one (i := 14) (o := { dst := some 41, op := Op.buildSlice 31 1 #[(0, Operand.tmp 40)], type := 31, pos := "l11_coord.go:268", after := #[{ on := 13, ground := Ground.data }], guard := none }) (by kernel_rfl) rfl (fun K hK => ?_)
        go_simp
        obtain ⟨V, hV⟩ : ∃ V, w3.alloc (.cells #[.int .i64 1, .int .i64 s, .int .i64 tx, .slice (some ⟨go, 0, none⟩) no co, .bool false] 39) = V := ⟨_, rfl⟩
        have hbv : Below w3.heap.size w3 V := by rw [← hV]; exact below_make
        have hX : BoxIn w3.heap.size 39 [] [.int .i64 1, .int .i64 s, .int .i64 tx, .slice (some ⟨go, 0, none⟩) no co, .bool false] [] V := by rw [← hV]; exact boxIn_new w3 _ _
        have hBV := hB3.trans (hbv.mono hB3.size)
        rw [hV]
        refine hK.out _ _ ?_ (fun hHeld => ?_)
        · exact hBw.trans (hBV.mono hBw.size)
        clear hK K hHeld0
        have hHeld0 := hHeld
        clear hHeld
        try simp only [Act.put, List.setIfInBounds_toArray, List.set_cons_zero, List.set_cons_succ]
        refine last.wpAnyL_one (i := 15) (o := { dst := some 42, op := Op.call { callee := Callee.builtin Builtin.append, args := #[Operand.tmp 27, Operand.tmp 41], argTypes := #[31, 31] }, type := 31, pos := "l11_coord.go:268", after := #[{ on := 0, ground := Ground.data }, { on := 14, ground := Ground.data }, { on := 12, ground := Ground.chain }], guard := none }) (by kernel_rfl) rfl (fun K hK => ?_)
        have hgo := hOO.lt
        have hOR := HO.out.below hBV
        have hlts := HO.out.lts
        have hxw : wordR.own V [.int .i64 1, .int .i64 s, .int .i64 tx, .slice (some ⟨go, 0, none⟩) no co, .bool false] (1, s, tx, opsFor s n ops, false) [go] := word_own.2 ⟨_, rfl, by show (Lit.int .i64 1).wf = true; decide, hsw, htw, ops_own.2 ⟨(ownV_of (hOO.below hbv)).mono (Nat.zero_le _), rfl⟩⟩
        obtain ⟨g', cap', w4, hrun, hO4, hgr, hat⟩ := OwnG.appRun (P := Try.prog) (z := .agg #[.int .i64 0, .int .i64 0, .int .i64 0, .slice none 0 0, .bool false]) Try.underlying31 infoW rfl (by decide) hOR hxw (fun b hb hc => by
          rw [List.mem_singleton] at hb
          have h2 := hlts b (by simpa [Value.ownBlock] using hc)
          omega) hX (by rw [HML.out]; unfold maxLen; omega) (by rw [HML.out]; omega) 31
        rw [HML.out] at hrun hO4
        refine step_append_run rfl (.tmp 27) (.tmp 41) 31 rfl (by kernel_rfl) (by kernel_rfl) hrun ?_
        have hqg := hq g (by simp)
        have hws := hBw.size
        have hge : ∀ bb, (Value.slice (some ⟨g, 0, none⟩) m cap).ownBlock = some bb → g = bb := fun bb e => by simpa [Value.ownBlock] using e
        have hBwV := hBw.trans (hBV.mono hBw.size)
        have hB4 : Below w.heap.size w w4 := hBwV.grown hgr hBwV.size (fun bb e => by have := hge bb e; omega)
        have hB4b : ∀ bb, bb < wr.heap.size → bb ≠ g → w4.heap[bb]? = wr.heap[bb]? := fun bb h1 h2 => (hgr.block bb (Nat.lt_of_lt_of_le h1 hBV.size) (fun e => h2 (hge bb e.symm).symm)).trans (hBV.block bb h1)
        have hgs4 : w4.heap[gs]? = w1.heap[gs]? := (hB4b gs hgsl (fun e => hggs e.symm)).trans hgsb
        have hq4 : ∀ bb ∈ g' :: blocksOf (q ++ [([.int .i64 1, .int .i64 s, .int .i64 tx, .slice (some ⟨go, 0, none⟩) no co, .bool false], [go])]), w.heap.size ≤ bb := fun bb hb => by
          rw [blocksOf_append] at hb
          have hs4 := hBV.size
          rcases List.mem_cons.1 hb with e | e
          · rcases hat with e2 | e2
            · have : g = g' := by simpa [Value.ownBlock] using e2
              omega
            · omega
          · rcases List.mem_append.1 e with e | e
            · exact hq bb (List.mem_cons_of_mem _ e)
            · have : bb = go := by simpa [blocksOf] using e
              omega
        have hg4 : g' ≠ gs := by
          have hs4 := hBV.size
          rcases hat with e2 | e2
          · have : g = g' := by simpa [Value.ownBlock] using e2
            omega
          · omega
        rw [← HR.out] at hO4
        have HO4 := Hid.mk' hO4
        have HQ4 := Hid.mk' hq4
        have hs44 := hgr.size
        have hs45 := hBV.size
        clear hrun hO4 hq4 hgr hX hxw hOR hOO
        refine hK.out _ _ ?_ (fun hHeld => ?_)
        · exact hB4
        clear hK K hHeld0
        have hHeld0 := hHeld
        clear hHeld
        try simp only [Act.put, List.setIfInBounds_toArray, List.set_cons_zero, List.set_cons_succ]
        refine last.wpAnyL_last (o := { dst := some 5, op := Op.assign (Operand.tmp 42), type := 31, pos := "l11_coord.go:268", after := #[{ on := 15, ground := Ground.data }, { on := 15, ground := Ground.chain }, { on := 0, ground := Ground.phase }, { on := 1, ground := Ground.phase }, { on := 2, ground := Ground.phase }, { on := 3, ground := Ground.phase }, { on := 4, ground := Ground.phase }, { on := 5, ground := Ground.phase }, { on := 6, ground := Ground.phase }, { on := 7, ground := Ground.phase }, { on := 8, ground := Ground.phase }, { on := 9, ground := Ground.phase }, { on := 10, ground := Ground.phase }, { on := 11, ground := Ground.phase }, { on := 12, ground := Ground.phase }, { on := 13, ground := Ground.phase }, { on := 14, ground := Ground.phase }, { on := 15, ground := Ground.phase }], guard := none }) (by kernel_rfl) rfl (by kernel_rfl) (fun K hK => ?_)
        go_simp
        refine hK.out _ _ ?_
        clear hK K
        go_wp2_with fail
        go_roundw
        case rel => exact ⟨k + 1, g', m + 1, cap', _, by omega, by go_num, rfl, HO4.out, HQ4.out, hg4, hB4, hgs4, by omega⟩
        case measure => simp [intOf]; omega
    · have hke : sh.take k = sh := List.take_of_length_le (by omega)
      rw [hke] at hO
      have hki : ¬ (k : Int) < (ns : Int) := by omega
      go_wp2_with fail
      go_ret
      exact ⟨_, _, _, q, rfl, hO, hq, hBw⟩
end Go.Proofs.Yteniflajiklffaa.cos

namespace Go.Proofs.Yteniflajiklffaa.cos
open Go Go.RowKit Go.Proofs.Yteniflajiklffaa.base Go.Proofs.Yteniflajiklffaa.pairs Go.Proofs.Yteniflajiklffaa.ords Go.Proofs.Yteniflajiklffaa.lay Go.Proofs.Yteniflajiklffaa.wds
set_option linter.unusedVariables false
set_option linter.unusedSimpArgs false

set_option maxRecDepth 100000 in
set_option maxHeartbeats 1000000 in
theorem spec_holds (n life next sure : Int) (ja : Option Addr) (jn jc : Nat) (la : Option Addr) (ln lc : Nat) (tx st : Int) (oa : Option Addr) (ol oc : Nat) (ya : Option Addr) (yl yc : Nat) (ops : List Od) (yes : List Int) (w : World) (htw : (Lit.int .i64 tx).wf = true) (hO0 : SlO w oa ol ops) (hY : SlZ w ya yl yes) (hsz : ol ≤ 8) (hn : (Lit.int .i64 n).wf = true) :
    Calls Try.prog 67 #[.agg #[.int .i64 n, .int .i64 life, .int .i64 next, .slice ja jn jc, .slice la ln lc, .int .i64 sure], .agg #[.int .i64 tx, .slice oa ol oc, .int .i64 st, .slice ya yl yc]] w (RetW w (holdsW n tx ops yes (shardsOf n ops))) := by
  obtain ⟨W0, hW0⟩ : ∃ W, (w.alloc (.cells #[.int .i64 n, .int .i64 life, .int .i64 next, .slice ja jn jc, .slice la ln lc, .int .i64 sure] 27)).alloc (.cells #[.int .i64 tx, .slice oa ol oc, .int .i64 st, .slice ya yl yc] 65) = W := ⟨_, rfl⟩
  have hB0 : Below w.heap.size w W0 := by rw [← hW0]; exact ((Below.refl _ _).alloc (Nat.le_refl _) _).alloc (by simp) _
  have hC0 : BoxIn w.heap.size 27 [] [.int .i64 n, .int .i64 life, .int .i64 next, .slice ja jn jc, .slice la ln lc, .int .i64 sure] [] W0 := by rw [← hW0]; exact (boxIn_new w _ _).below below_make
  have hJ0 : BoxIn (w.heap.size + 1) 65 [] [.int .i64 tx, .slice oa ol oc, .int .i64 st, .slice ya yl yc] [] W0 := by
    rw [← hW0]
    have := boxIn_new (w.alloc (.cells #[.int .i64 n, .int .i64 life, .int .i64 next, .slice ja jn jc, .slice la ln lc, .int .i64 sure] 27)) [.int .i64 tx, .slice oa ol oc, .int .i64 st, .slice ya yl yc] 65
    rwa [show (w.alloc (.cells #[.int .i64 n, .int .i64 life, .int .i64 next, .slice ja jn jc, .slice la ln lc, .int .i64 sure] 27)).heap.size = w.heap.size + 1 by simp] at this
  obtain ⟨W, hW⟩ : ∃ W, W0.alloc (.cells #[] 39) = W := ⟨_, rfl⟩
  have hb0 : Below W0.heap.size W0 W := by rw [← hW]; exact below_make
  have hB := hB0.trans (hb0.mono hB0.size)
  have hr0 := row_new0 W0
  rw [hW] at hr0
  have hs0 : W0.heap.size = w.heap.size + 1 + 1 := by rw [← hW0]; simp
  have hsW : W0.heap.size < W.heap.size := by rw [← hW]; simp
  have hC := hC0.below hb0
  have hJ := hJ0.below hb0
  have hCl := hC.lt
  have hJl := hJ.lt
  obtain ⟨a0, _, _, _, _, _⟩ := cells6 hC
  obtain ⟨j0, j1, j2, j3⟩ := cells4 hJ
  have HSH := Hid.mk' (spec_shardsOf oa ol oc ops n W (hO0.below hB) (by omega) hn)
  have HOF := Hid.mk' (fun s (hs : (Lit.int .i64 s).wf = true) wx (hx : Below w.heap.size w wx) => spec_opsFor oa ol oc ops s n wx (hO0.below hx) (by omega) hn hs)
  have HCN := Hid.mk' (fun s wx (hx : Below w.heap.size w wx) => spec_l7Has ya yl yc yes s wx (hY.below hx))
  have hshl : (shardsOf n ops).length ≤ 8 := shards_len n ops (by have := hO0.1; omega)
  have hshw : ∀ s ∈ shardsOf n ops, (Lit.int .i64 s).wf = true := fun s hs => by
    obtain ⟨o, _, rfl⟩ := (shards_mem n ops s).1 hs
    exact shardOf_wf _ _
  have HW : Hid (((w.alloc (.cells #[.int .i64 n, .int .i64 life, .int .i64 next, .slice ja jn jc, .slice la ln lc, .int .i64 sure] 27)).alloc (.cells #[.int .i64 tx, .slice oa ol oc, .int .i64 st, .slice ya yl yc] 65)).alloc (.cells #[] 39) = W) := by show _ = _; rw [hW0, hW]
  have HSW := Hid.mk' hshw
  have HA0 := Hid.mk' a0
  have HJ0 := Hid.mk' j0
  have HJ1 := Hid.mk' j1
  have HJ3 := Hid.mk' j3
  have x1 := j1
  have y0 := a0
  rw [← HW.out] at x1 y0
  clear hW0 hW hO0 hY hshw hn j0 j1 j2 j3 a0
  rw [hs0] at hr0
  generalize shardsOf n ops = sh at *
  go_enter Try.func67, Try.ntmps67
  go_wp2_with fail
  rw [HW.out]
  refine HSH.out.mono ?_
  rintro e w1 ⟨gs, ns, cs, rfl, hZ, hb1⟩
  have hB1 := hB.trans (hb1.mono hB.size)
  have hO1 := ownG_row0 (R := wordR) (ty := 39) hr0
  have hO1b := hO1.below hb1
  have hZs := hZ.sl
  have hZl := hZ.1
  have hZlt := hZ.lt
  clear x1 y0 HSH hO1 hr0
  go_wp2_with fail
  go_loopw [7, 5] (fun i v wr => ∃ (k g m cap : Nat) (q : Parts), k ≤ ns ∧ i = .int .i64 (k : Int) ∧ v = .slice (some ⟨g, 0, none⟩) m cap ∧ OwnG 39 wordR wr (.slice (some ⟨g, 0, none⟩) m cap) (holdsW n tx ops yes (sh.take k)) q ∧ (∀ bb ∈ g :: blocksOf q, w.heap.size + 1 + 1 ≤ bb) ∧ g ≠ gs ∧ Below w.heap.size w wr ∧ BoxIn w.heap.size 27 [] [.int .i64 n, .int .i64 life, .int .i64 next, .slice ja jn jc, .slice la ln lc, .int .i64 sure] [] wr ∧ BoxIn (w.heap.size + 1) 65 [] [.int .i64 tx, .slice oa ol oc, .int .i64 st, .slice ya yl yc] [] wr ∧ wr.heap[gs]? = w1.heap[gs]? ∧ gs < wr.heap.size) (fun i _ _ => ns - (intOf i).toNat)
  case atStart => exact ⟨0, w.heap.size + 1 + 1, 0, 0, [], Nat.zero_le _, rfl, rfl, hO1b, fun bb hb => by simp [blocksOf] at hb; omega, by omega, hB1, hC.below hb1, hJ.below hb1, rfl, hZlt.2⟩
  case round =>
    obtain ⟨k, g, m, cap, q, hk, rfl, rfl, hO, hq, hggs, hBw, hCw, hJw, hgsb, hgsl⟩ := hrel
    by_cases hlt : k < ns
    · have hltl : k < sh.length := by omega
      have hki : (k : Int) < (ns : Int) := by omega
      have hat := (hZ.kept hgsb).at k hltl
      have hsw := HSW.out _ (List.getElem_mem hltl)
      have HTK : Hid (sh.take (k + 1) = sh.take k ++ [sh[k]]) := List.take_succ_eq_append_getElem hltl
      have HML : Hid ((holdsW n tx ops yes (sh.take k)).length = m) := hO.nlen.symm
      have hmk : m ≤ 8 := by have h1 := holdsW_len n tx ops yes (sh.take k); rw [HML.out] at h1; simp at h1; omega
      have HSN := Hid.mk' (holdsW_snoc n tx ops yes (sh.take k) sh[k])
      rw [← HTK.out] at HSN
      generalize sh[k] = s at *
      obtain ⟨d0, d1, d2, d3⟩ := cells4 hJw
      have o3 := last.On.cell (B := wr.heap.size) d3 (World.block_lt_of_cell? _ _ d3)
      have os := last.On.cell (B := wr.heap.size) hat (World.block_lt_of_cell? _ _ hat)
      have hinh := last.On.inh wr.heap.size wr
      have hhas : ∀ x : last.On wr.heap.size wr, Calls Try.prog 79 #[.slice ya yl yc, .int .i64 s] x.w fun e w' => e = .returned (.bool (decide (s ∈ yes))) ∧ ∃ y : last.On wr.heap.size wr, w' = y.w := fun x => last.Calls.on x (Nat.le_refl _) ((HCN.out s x.w (hBw.trans (x.2.mono hBw.size))).mono fun e w' ⟨he, hw⟩ => ⟨he, by rw [hw]; exact Below.refl _ _⟩)
      have HO := Hid.mk' hO
      have HOF := Hid.mk' (fun wx hx => HOF.out s hsw wx hx)
      clear hO d0 d1 d2 d3
      by_cases hin : s ∈ yes
      · have HR : Hid (holdsW n tx ops yes (sh.take (k + 1)) = holdsW n tx ops yes (sh.take k)) := by show _ = _; rw [HSN.out, if_pos hin]
        rw [decide_eq_true hin] at hhas
        clear hin HSN
        go_wp2_with fail
        refine last.wp_region_on wr.heap.size (by kernel_rfl) (by kernel_rfl) ?_
        repeat (go_big_quiet_step ((first | (go_at_call 79; with_reducible exact hhas _))))
        refine wpQuiet_nil ?_
        intro wq hwq
        obtain ⟨xq, hwq⟩ := hwq
        subst hwq
        have hbq : Below wr.heap.size wr xq.w := xq.2
        generalize xq.w = w4 at *
        clear o3 os hhas hinh
        have hBq := hBw.trans (hbq.mono hBw.size)
        have hgq : w4.heap[gs]? = w1.heap[gs]? := (hbq.block gs hgsl).trans hgsb
        have hqs := hbq.size
        clear hat
        go_wp2_with fail
        go_roundw
        case rel => exact ⟨k + 1, g, m, cap, q, by omega, by go_num, rfl, by rw [HR.out]; exact HO.out.below hbq, hq, hggs, hBq, hCw.below hbq, hJw.below hbq, hgq, by omega⟩
        case measure => simp [intOf]; omega
      · have HR : Hid (holdsW n tx ops yes (sh.take (k + 1)) = holdsW n tx ops yes (sh.take k) ++ [(1, s, tx, opsFor s n ops, false)]) := by show _ = _; rw [HSN.out, if_neg hin]
        rw [decide_eq_false hin] at hhas
        clear hin HSN
        go_wp2_with fail
        refine last.wp_region_on wr.heap.size (by kernel_rfl) (by kernel_rfl) ?_
        repeat (go_big_quiet_step ((first | (go_at_call 79; with_reducible exact hhas _))))
        refine wpQuiet_nil ?_
        intro wq hwq
        obtain ⟨xq, hwq⟩ := hwq
        subst hwq
        have hbq : Below wr.heap.size wr xq.w := xq.2
        generalize xq.w = w4 at *
        clear o3 os hhas hinh
        replace hBw := hBw.trans (hbq.mono hBw.size)
        replace hgsb : w4.heap[gs]? = w1.heap[gs]? := (hbq.block gs hgsl).trans hgsb
        replace hat := (hbq.cell (p := ⟨gs, k, none⟩) hgsl).trans hat
        replace HO := Hid.mk' (HO.out.below hbq)
        replace hCw := hCw.below hbq
        replace hJw := hJw.below hbq
        replace hgsl : gs < w4.heap.size := Nat.lt_of_lt_of_le hgsl hbq.size
        clear hbq
        generalize hwq : w4 = wr2 at *
        clear hwq
        go_wp2_with fail
        have hdW : Below wr2.heap.size wr2 wr2.drew := (Below.refl _ _).drew
        refine last.wp_region_later (S := fun w' => (BoxIn w.heap.size 27 [] [.int .i64 n, .int .i64 life, .int .i64 next, .slice ja jn jc, .slice la ln lc, .int .i64 sure] [] w' ∧ BoxIn (w.heap.size + 1) 65 [] [.int .i64 tx, .slice oa ol oc, .int .i64 st, .slice ya yl yc] [] w') ∧ w'.cell? ⟨gs, k, none⟩ = some (.int .i64 s)) 19 (by kernel_rfl) ⟨⟨hCw.below hdW, hJw.below hdW⟩, hat⟩ (fun hHeld0 => ?_)
        generalize hD : wr2.drew = D at *
        clear hD
        refine last.wpAnyL_take (i := 0) (v := (.slice (some ⟨g, 0, none⟩) m cap)) rfl rfl (by kernel_rfl) (by kernel_rfl) (by kernel_rfl) (by kernel_rfl) (fun _ _ _ h => h) (Or.inl ⟨by rfl, ?_⟩) (by assumption) ?_
        · intro wq hSq; go_simp
        try simp only [Act.put, List.setIfInBounds_toArray, List.set_cons_zero, List.set_cons_succ]
        refine last.wpAnyL_take (i := 1) (v := (.slice (some ⟨gs, 0, none⟩) ns cs)) rfl rfl (by kernel_rfl) (by kernel_rfl) (by kernel_rfl) (by kernel_rfl) (fun _ _ _ h => h) (Or.inl ⟨by rfl, ?_⟩) (by assumption) ?_
        · intro wq hSq; go_simp
        try simp only [Act.put, List.setIfInBounds_toArray, List.set_cons_zero, List.set_cons_succ]
        refine last.wpAnyL_take (i := 2) (v := (.int .i64 (k : Int))) rfl rfl (by kernel_rfl) (by kernel_rfl) (by kernel_rfl) (by kernel_rfl) (fun _ _ _ h => h) (Or.inl ⟨by rfl, ?_⟩) (by assumption) ?_
        · intro wq hSq; go_simp
        try simp only [Act.put, List.setIfInBounds_toArray, List.set_cons_zero, List.set_cons_succ]
        refine last.wpAnyL_take (i := 3) (v := (.pointer (some ⟨gs, k, none⟩))) rfl rfl (by kernel_rfl) (by kernel_rfl) (by kernel_rfl) (by kernel_rfl) (fun _ _ _ h => h) (Or.inl ⟨by rfl, ?_⟩) (by assumption) ?_
        · intro wq hSq; go_simp
        try simp only [Act.put, List.setIfInBounds_toArray, List.set_cons_zero, List.set_cons_succ]
        refine last.wpAnyL_take (i := 4) (v := (.int .i64 s)) rfl rfl (by kernel_rfl) (by kernel_rfl) (by kernel_rfl) (by kernel_rfl) (fun _ _ _ h => h) (Or.inl ⟨by rfl, ?_⟩) (by assumption) ?_
        · intro wq hSq; have q := hSq.2; go_simp
        try simp only [Act.put, List.setIfInBounds_toArray, List.set_cons_zero, List.set_cons_succ]
        refine last.wpAnyL_take (i := 5) (v := (.pointer (some ⟨w.heap.size + 1, 0, none⟩))) rfl rfl (by kernel_rfl) (by kernel_rfl) (by kernel_rfl) (by kernel_rfl) (fun _ _ _ h => h) (Or.inl ⟨by rfl, ?_⟩) (by assumption) ?_
        · intro wq hSq; go_simp
        try simp only [Act.put, List.setIfInBounds_toArray, List.set_cons_zero, List.set_cons_succ]
        refine last.wpAnyL_take (i := 6) (v := (.int .i64 tx)) rfl rfl (by kernel_rfl) (by kernel_rfl) (by kernel_rfl) (by kernel_rfl) (fun _ _ _ h => h) (Or.inl ⟨by rfl, ?_⟩) (by assumption) ?_
        · intro wq hSq; have q := (cells4 hSq.1.2).1; go_simp
        try simp only [Act.put, List.setIfInBounds_toArray, List.set_cons_zero, List.set_cons_succ]
        refine last.wpAnyL_take (i := 7) (v := (.pointer (some ⟨w.heap.size + 1, 1, none⟩))) rfl rfl (by kernel_rfl) (by kernel_rfl) (by kernel_rfl) (by kernel_rfl) (fun _ _ _ h => h) (Or.inl ⟨by rfl, ?_⟩) (by assumption) ?_
        · intro wq hSq; go_simp
        try simp only [Act.put, List.setIfInBounds_toArray, List.set_cons_zero, List.set_cons_succ]
        refine last.wpAnyL_take (i := 8) (v := (.slice oa ol oc)) rfl rfl (by kernel_rfl) (by kernel_rfl) (by kernel_rfl) (by kernel_rfl) (fun _ _ _ h => h) (Or.inl ⟨by rfl, ?_⟩) (by assumption) ?_
        · intro wq hSq; have q := (cells4 hSq.1.2).2.1; go_simp
        try simp only [Act.put, List.setIfInBounds_toArray, List.set_cons_zero, List.set_cons_succ]
        refine last.wpAnyL_take (i := 9) (v := (.slice (some ⟨gs, 0, none⟩) ns cs)) rfl rfl (by kernel_rfl) (by kernel_rfl) (by kernel_rfl) (by kernel_rfl) (fun _ _ _ h => h) (Or.inl ⟨by rfl, ?_⟩) (by assumption) ?_
        · intro wq hSq; go_simp
        try simp only [Act.put, List.setIfInBounds_toArray, List.set_cons_zero, List.set_cons_succ]
        refine last.wpAnyL_take (i := 10) (v := (.int .i64 (k : Int))) rfl rfl (by kernel_rfl) (by kernel_rfl) (by kernel_rfl) (by kernel_rfl) (fun _ _ _ h => h) (Or.inl ⟨by rfl, ?_⟩) (by assumption) ?_
        · intro wq hSq; go_simp
        try simp only [Act.put, List.setIfInBounds_toArray, List.set_cons_zero, List.set_cons_succ]
        refine last.wpAnyL_take (i := 11) (v := (.pointer (some ⟨gs, k, none⟩))) rfl rfl (by kernel_rfl) (by kernel_rfl) (by kernel_rfl) (by kernel_rfl) (fun _ _ _ h => h) (Or.inl ⟨by rfl, ?_⟩) (by assumption) ?_
        · intro wq hSq; go_simp
        try simp only [Act.put, List.setIfInBounds_toArray, List.set_cons_zero, List.set_cons_succ]
        refine last.wpAnyL_take (i := 12) (v := (.int .i64 s)) rfl rfl (by kernel_rfl) (by kernel_rfl) (by kernel_rfl) (by kernel_rfl) (fun _ _ _ h => h) (Or.inl ⟨by rfl, ?_⟩) (by assumption) ?_
        · intro wq hSq; have q := hSq.2; go_simp
        try simp only [Act.put, List.setIfInBounds_toArray, List.set_cons_zero, List.set_cons_succ]
        refine last.wpAnyL_take (i := 13) (v := (.pointer (some ⟨w.heap.size, 0, none⟩))) rfl rfl (by kernel_rfl) (by kernel_rfl) (by kernel_rfl) (by kernel_rfl) (fun _ _ _ h => h) (Or.inl ⟨by rfl, ?_⟩) (by assumption) ?_
        · intro wq hSq; go_simp
        try simp only [Act.put, List.setIfInBounds_toArray, List.set_cons_zero, List.set_cons_succ]
        refine last.wpAnyL_take (i := 14) (v := (.int .i64 n)) rfl rfl (by kernel_rfl) (by kernel_rfl) (by kernel_rfl) (by kernel_rfl) (fun _ _ _ h => h) (Or.inl ⟨by rfl, ?_⟩) (by assumption) ?_
        · intro wq hSq; have q := (cells6 hSq.1.1).1; go_simp
        try simp only [Act.put, List.setIfInBounds_toArray, List.set_cons_zero, List.set_cons_succ]
        refine last.wpAnyL_one (i := 15) (o := { dst := some 43, op := Op.call { callee := Callee.value (Operand.func 104), args := #[Operand.tmp 36, Operand.tmp 40, Operand.tmp 42], argTypes := #[28, 3, 3] }, type := 28, pos := "l11_coord.go:85", after := #[{ on := 8, ground := Ground.data }, { on := 12, ground := Ground.data }, { on := 14, ground := Ground.data }], guard := none }) (by kernel_rfl) rfl (fun K hK => ?_)
        refine stepg.call3 rfl 104 (.tmp 36) (.tmp 40) (.tmp 42) _ rfl (fun _ _ => rfl) (.slice oa ol oc) (.int .i64 s) (.int .i64 n) (by kernel_rfl) (by kernel_rfl) (by kernel_rfl) _ (HOF.out D (hBw.trans (hdW.mono hBw.size))) ?_
        rintro e w3 ⟨go, no, co, rfl, hOO, hb3⟩
        refine ⟨_, rfl, ?_⟩
        have hB3 : Below wr2.heap.size wr2 w3 := hdW.trans (hb3.mono hdW.size)
        have hDs := hdW.size
        refine hK.out _ _ ?_ (fun hHeld => ?_)
        · exact ⟨⟨hCw.below hB3, hJw.below hB3⟩, (hB3.cell (p := ⟨gs, k, none⟩) hgsl).trans hat⟩
        clear hK K hHeld0
        have hHeld0 := hHeld
        clear hHeld
        try simp only [Act.put, List.setIfInBounds_toArray, List.set_cons_zero, List.set_cons_succ]
        refine last.wpAnyL_take (i := 16) (v := (.agg #[.int .i64 1, .int .i64 s, .int .i64 tx, .slice (some ⟨go, 0, none⟩) no co, .bool false])) rfl rfl (by kernel_rfl) (by kernel_rfl) (by kernel_rfl) (by kernel_rfl) (fun _ _ _ h => h) (Or.inl ⟨by rfl, ?_⟩) (by assumption) ?_
        · intro wq hSq; go_simp
        try simp only [Act.put, List.setIfInBounds_toArray, List.set_cons_zero, List.set_cons_succ]
        refine last.wpAnyL_one (i := 17) (o := { dst := some 45, op := Op.buildSlice 31 1 #[(0, Operand.tmp 44)], type := 31, pos := "l11_coord.go:85", after := #[{ on := 16, ground := Ground.data }], guard := none }) (by kernel_rfl) rfl (fun K hK => ?_)
        go_simp
        obtain ⟨V, hV⟩ : ∃ V, w3.alloc (.cells #[.int .i64 1, .int .i64 s, .int .i64 tx, .slice (some ⟨go, 0, none⟩) no co, .bool false] 39) = V := ⟨_, rfl⟩
        have hbv : Below w3.heap.size w3 V := by rw [← hV]; exact below_make
        have hX : BoxIn w3.heap.size 39 [] [.int .i64 1, .int .i64 s, .int .i64 tx, .slice (some ⟨go, 0, none⟩) no co, .bool false] [] V := by rw [← hV]; exact boxIn_new w3 _ _
        have hBV := hB3.trans (hbv.mono hB3.size)
        rw [hV]
        refine hK.out _ _ ?_ (fun hHeld => ?_)
        · exact ⟨⟨hCw.below hBV, hJw.below hBV⟩, (hBV.cell (p := ⟨gs, k, none⟩) hgsl).trans hat⟩
        clear hK K hHeld0
        have hHeld0 := hHeld
        clear hHeld
        try simp only [Act.put, List.setIfInBounds_toArray, List.set_cons_zero, List.set_cons_succ]
        refine last.wpAnyL_one (i := 18) (o := { dst := some 46, op := Op.call { callee := Callee.builtin Builtin.append, args := #[Operand.tmp 28, Operand.tmp 45], argTypes := #[31, 31] }, type := 31, pos := "l11_coord.go:85", after := #[{ on := 0, ground := Ground.data }, { on := 17, ground := Ground.data }, { on := 15, ground := Ground.chain }], guard := none }) (by kernel_rfl) rfl (fun K hK => ?_)
        have hgo := hOO.lt
        have hOR := HO.out.below hBV
        have hlts := HO.out.lts
        have hxw : wordR.own V [.int .i64 1, .int .i64 s, .int .i64 tx, .slice (some ⟨go, 0, none⟩) no co, .bool false] (1, s, tx, opsFor s n ops, false) [go] := word_own.2 ⟨_, rfl, by show (Lit.int .i64 1).wf = true; decide, hsw, htw, ops_own.2 ⟨(ownV_of (hOO.below hbv)).mono (Nat.zero_le _), rfl⟩⟩
        obtain ⟨g', cap', w4, hrun, hO4, hgr, hat4⟩ := OwnG.appRun (P := Try.prog) (z := .agg #[.int .i64 0, .int .i64 0, .int .i64 0, .slice none 0 0, .bool false]) Try.underlying31 infoW rfl (by decide) hOR hxw (fun b hb hc => by
          rw [List.mem_singleton] at hb
          have h2 := hlts b (by simpa [Value.ownBlock] using hc)
          omega) hX (by rw [HML.out]; unfold maxLen; omega) (by rw [HML.out]; omega) 31
        rw [HML.out] at hrun hO4
        refine step_append_run rfl (.tmp 28) (.tmp 45) 31 rfl (by kernel_rfl) (by kernel_rfl) hrun ?_
        have hqg := hq g (by simp)
        have hws := hBw.size
        have hge : ∀ bb, (Value.slice (some ⟨g, 0, none⟩) m cap).ownBlock = some bb → g = bb := fun bb e => by simpa [Value.ownBlock] using e
        have hBwV := hBw.trans (hBV.mono hBw.size)
        have hB4 : Below w.heap.size w w4 := hBwV.grown hgr hBwV.size (fun bb e => by have := hge bb e; omega)
        have hB4b : ∀ bb, bb < wr2.heap.size → bb ≠ g → w4.heap[bb]? = wr2.heap[bb]? := fun bb h1 h2 => (hgr.block bb (Nat.lt_of_lt_of_le h1 hBV.size) (fun e => h2 (hge bb e.symm).symm)).trans (hBV.block bb h1)
        have hgs4 : w4.heap[gs]? = w1.heap[gs]? := (hB4b gs hgsl (fun e => hggs e.symm)).trans hgsb
        have hC4 := (hCw.below hBV).grown hgr (fun e => by have := hge _ e.symm; omega)
        have hJ4 := (hJw.below hBV).grown hgr (fun e => by have := hge _ e.symm; omega)
        have hat5 : w4.cell? ⟨gs, k, none⟩ = some (.int .i64 s) := (World.cell?_of_block (hB4b gs hgsl (fun e => hggs e.symm))).trans hat
        have hq4 : ∀ bb ∈ g' :: blocksOf (q ++ [([.int .i64 1, .int .i64 s, .int .i64 tx, .slice (some ⟨go, 0, none⟩) no co, .bool false], [go])]), w.heap.size + 1 + 1 ≤ bb := fun bb hb => by
          rw [blocksOf_append] at hb
          have hs4 := hBV.size
          rcases List.mem_cons.1 hb with e | e
          · rcases hat4 with e2 | e2
            · have : g = g' := by simpa [Value.ownBlock] using e2
              omega
            · omega
          · rcases List.mem_append.1 e with e | e
            · exact hq bb (List.mem_cons_of_mem _ e)
            · have : bb = go := by simpa [blocksOf] using e
              omega
        have hg4 : g' ≠ gs := by
          have hs4 := hBV.size
          rcases hat4 with e2 | e2
          · have : g = g' := by simpa [Value.ownBlock] using e2
            omega
          · omega
        rw [← HR.out] at hO4
        have HO4 := Hid.mk' hO4
        have HQ4 := Hid.mk' hq4
        have hs44 := hgr.size
        have hs45 := hBV.size
        clear hrun hO4 hq4 hgr hX hxw hOR hOO
        refine hK.out _ _ ?_ (fun hHeld => ?_)
        · exact ⟨⟨hC4, hJ4⟩, hat5⟩
        clear hK K hHeld0
        have hHeld0 := hHeld
        clear hHeld
        try simp only [Act.put, List.setIfInBounds_toArray, List.set_cons_zero, List.set_cons_succ]
        refine last.wpAnyL_last (o := { dst := some 5, op := Op.assign (Operand.tmp 46), type := 31, pos := "l11_coord.go:85", after := #[{ on := 18, ground := Ground.data }, { on := 18, ground := Ground.chain }, { on := 0, ground := Ground.phase }, { on := 1, ground := Ground.phase }, { on := 2, ground := Ground.phase }, { on := 3, ground := Ground.phase }, { on := 4, ground := Ground.phase }, { on := 5, ground := Ground.phase }, { on := 6, ground := Ground.phase }, { on := 7, ground := Ground.phase }, { on := 8, ground := Ground.phase }, { on := 9, ground := Ground.phase }, { on := 10, ground := Ground.phase }, { on := 11, ground := Ground.phase }, { on := 12, ground := Ground.phase }, { on := 13, ground := Ground.phase }, { on := 14, ground := Ground.phase }, { on := 15, ground := Ground.phase }, { on := 16, ground := Ground.phase }, { on := 17, ground := Ground.phase }, { on := 18, ground := Ground.phase }], guard := none }) (by kernel_rfl) rfl (by kernel_rfl) (fun K hK => ?_)
        go_simp
        refine hK.out _ _ ?_
        clear hK K
        go_wp2_with fail
        go_roundw
        case rel => exact ⟨k + 1, g', m + 1, cap', _, by omega, by go_num, rfl, HO4.out, HQ4.out, hg4, hB4, hC4, hJ4, hgs4, by omega⟩
        case measure => simp [intOf]; omega
    · have hke : sh.take k = sh := List.take_of_length_le (by omega)
      rw [hke] at hO
      have hki : ¬ (k : Int) < (ns : Int) := by omega
      go_wp2_with fail
      go_ret
      exact ⟨_, _, _, q, rfl, hO, fun bb hb => by have := hq bb hb; omega, hBw⟩
end Go.Proofs.Yteniflajiklffaa.cos
