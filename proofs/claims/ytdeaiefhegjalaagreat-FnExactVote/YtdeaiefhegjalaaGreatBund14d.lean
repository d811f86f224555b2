/- The program's one who decides: a shard's yes is put among those of a job, in place or not. The program's Vote. -/
import Derived.Test.YtdeaiefhegjalaaGreatBund14b
import Derived.Test.YtdeaiefhegjalaaGreatBund14c
import Derived.Test.YtdeaiefhegjalaaGreatBund12bg
namespace Go.Proofs.YtdeaiefhegjalaaGreat.lay
open Go Go.RowKit Go.Proofs.YtdeaiefhegjalaaGreat.base
/-- one cell of an element is written behind a change of what the element owns -/
theorem OwnG.cellW {α : Type} {ty : TypeId} {R : Rd α} {w W4 : World} {g n cap : Nat} {l : List α} {q : Parts} (h : OwnG ty R w (.slice (some ⟨g, 0, none⟩) n cap) l q) (i : Nat) (hi : i < l.length) (hW : ∀ b, b < w.heap.size → b ∉ (q[i]'(by have := h.len; omega)).2 → W4.heap[b]? = w.heap[b]?) (j : Nat) (hj : j < R.size) (u : Value) (x : α) (F' : List Nat) (hx : R.own W4 ((q[i]'(by have := h.len; omega)).1.set j u) x F') (hN : ∀ b ∈ F', b ∈ (q[i]'(by have := h.len; omega)).2 ∨ w.heap.size ≤ b) :
    OwnG ty R (W4.setCell ⟨g, i * R.size + j, none⟩ u) (.slice (some ⟨g, 0, none⟩) n cap) (l.set i x) (q.set i ((q[i]'(by have := h.len; omega)).1.set j u, F')) ∧ W4.grownBy (W4.setCell ⟨g, i * R.size + j, none⟩ u) (some g) := by
  have hn : n = l.length := h.nlen
  subst hn
  have hl := h.len
  have hqi : i < q.length := by omega
  have hgn : ∀ b ∈ blocksOf q, b ≠ g := fun b hb e => by
    have := (nodup_parts h.nodup).2.2 g (by simp [Value.ownBlock])
    exact this (e ▸ hb)
  have hbq : ∀ k (hk : k < q.length), ∀ b ∈ q[k].2, b ∈ blocksOf q := fun k hk b hb => List.mem_flatMap.2 ⟨_, List.getElem_mem _, hb⟩
  have hglt : g < w.heap.size := h.lts g List.mem_cons_self
  have hblt : ∀ b ∈ blocksOf q, b < w.heap.size := fun b hb => h.lts b (List.mem_cons_of_mem _ hb)
  have hr4 : W4.ownsRow 0 ty R.size (.slice (some ⟨g, 0, none⟩) l.length cap) l.length (cellsOf q) := by
    refine ⟨h.row.1, ?_⟩
    rcases h.row.2 with ⟨e, _⟩ | ⟨g', cap', cur, e, hb, hg, r⟩
    · cases e
    · cases e
      exact .inr ⟨g, cap, cur, rfl, hb, (hW g hglt fun e => hgn g (hbq i hqi g e) rfl).trans hg, r⟩
  have hr := hr4.stored (i * R.size + j) u
  have hp := h.parts
  have hpl := hp _ (List.getElem_mem hqi)
  have e0 : (cellsOf q).set (i * R.size + j) u = cellsOf (q.set i (q[i].1.set j u, F')) := by
    rw [← cellsOf_set hp i hqi (q[i].1.set j u) (by rw [List.length_set]; exact hpl) F']
    have hin : i * R.size + R.size ≤ (cellsOf q).length := by
      rw [cellsOf_length hp]
      have := Nat.mul_le_mul_right R.size (show i + 1 ≤ q.length from hqi)
      rw [Nat.add_mul] at this; omega
    refine List.ext_getElem? fun z => ?_
    rw [setAll_get _ _ _ _ (by rw [List.length_set, hpl]; exact hin), List.length_set, hpl]
    by_cases hz : i * R.size ≤ z ∧ z < i * R.size + R.size
    · rw [if_pos hz]
      obtain ⟨d, rfl⟩ : ∃ d, z = i * R.size + d := ⟨z - i * R.size, by omega⟩
      rw [Nat.add_sub_cancel_left]
      by_cases hd : d = j
      · subst hd
        rw [List.getElem?_set_self (by omega), List.getElem?_set_self (by omega)]
      · rw [List.getElem?_set_ne (by omega), List.getElem?_set_ne (by omega), cellsOf_get hp i hqi d (by omega)]
    · rw [if_neg hz, List.getElem?_set_ne (by omega)]
  rw [e0] at hr
  have hFg : ∀ b ∈ F', b ≠ g := fun b hb e => by
    rcases hN b hb with e2 | e2
    · exact hgn b (hbq i hqi b e2) e
    · omega
  have hdis : ∀ k (hk : k < q.length), k ≠ i → ∀ b ∈ q[k].2, b ∉ q[i].2 := fun j hj hne b hb hb2 => by
    have hnd := (nodup_parts h.nodup).2.1
    rcases Nat.lt_or_ge j i with hlt | hge
    · have e1 : blocksOf q = blocksOf (q.take i) ++ blocksOf (q.drop i) := by rw [← blocksOf_append, List.take_append_drop]
      rw [e1] at hnd
      refine (nodup_parts hnd).2.2 b (List.mem_flatMap.2 ⟨q[j], ?_, hb⟩) (List.mem_flatMap.2 ⟨q[i], ?_, hb2⟩)
      · rw [List.mem_take_iff_getElem]; exact ⟨j, by omega, rfl⟩
      · rw [List.mem_drop_iff_getElem]; exact ⟨0, by omega, by simp⟩
    · have hlt : i < j := by omega
      have e1 : blocksOf q = blocksOf (q.take j) ++ blocksOf (q.drop j) := by rw [← blocksOf_append, List.take_append_drop]
      rw [e1] at hnd
      refine (nodup_parts hnd).2.2 b (List.mem_flatMap.2 ⟨q[i], ?_, hb2⟩) (List.mem_flatMap.2 ⟨q[j], ?_, hb⟩)
      · rw [List.mem_take_iff_getElem]; exact ⟨i, by omega, rfl⟩
      · rw [List.mem_drop_iff_getElem]; exact ⟨0, by omega, by simp⟩
  exact ⟨h.turn i hi _ x _ hr.1 (R.ownAt hx fun k hk => hr.2.block k (R.ownLt hx k hk) fun e => hFg k hk (Option.some.inj e)) (fun k hk hne b hb => by
    have h1 := hblt b (hbq k (by omega) b hb)
    have h2 := hW b h1 (hdis k (by omega) hne b hb)
    refine Eq.trans (hr.2.block b ?_ fun e => hgn b (hbq k (by omega) b hb) (Option.some.inj e)) h2
    rcases Nat.lt_or_ge b W4.heap.size with h3 | h3
    · exact h3
    · rw [Array.getElem?_eq_none (by omega), Array.getElem?_eq_getElem h1] at h2
      cases h2) (fun b hb => (hN b hb).imp_right fun e hm => by
    have : b = g ∨ b ∈ blocksOf q := by simpa [Value.ownBlock] using hm
    rcases this with e2 | e2
    · omega
    · have := hblt b e2; omega), hr.2⟩
end Go.Proofs.YtdeaiefhegjalaaGreat.lay
namespace Go.Proofs.YtdeaiefhegjalaaGreat.cos
open Go Go.RowKit Go.Proofs.YtdeaiefhegjalaaGreat.base Go.Proofs.YtdeaiefhegjalaaGreat.pairs Go.Proofs.YtdeaiefhegjalaaGreat.ords Go.Proofs.YtdeaiefhegjalaaGreat.lay Go.Proofs.YtdeaiefhegjalaaGreat.wds Go.Proofs.YtdeaiefhegjalaaGreat.ins
set_option linter.unusedVariables false
set_option linter.unusedSimpArgs false

/-- the yes of the job at k as they lie, and the way back from a change of them -/
theorem InCo.yes {w : World} {X : Nat} {T : TypeId} {pre post : List Value} {gj jn jc : Nat} {la : Option Addr} {ln lc : Nat} {c : Co} {F : List Nat} (h : InCo w X T pre post (some ⟨gj, 0, none⟩) jn jc la ln lc c F) (k : Nat) (hk : k < c.2.2.2.1.length) (shard : Int) :
    ∃ ya yl yc, w.cell? ⟨gj, k * 4 + 3, none⟩ = some (.slice ya yl yc) ∧ (∀ i, w.frozen? ⟨gj, i, none⟩ = false) ∧ OwnZV w (.slice ya yl yc) c.2.2.2.1[k].2.2.2 ∧ (Value.slice ya yl yc).ownBlock ≠ some gj ∧ (∀ b ∈ (Value.slice ya yl yc).ownBlock.toList, b < w.heap.size) ∧
      ∀ (W4 : World) (ra : Option Addr) (rn rc : Nat), w.grownBy W4 (Value.slice ya yl yc).ownBlock → OwnZV W4 (.slice ra rn rc) (putI c.2.2.2.1[k].2.2.2 shard) → (∀ b ∈ (Value.slice ra rn rc).ownBlock.toList, b ∈ (Value.slice ya yl yc).ownBlock.toList ∨ w.heap.size ≤ b) →
        ∃ F', InCo (W4.setCell ⟨gj, k * 4 + 3, none⟩ (.slice ra rn rc)) X T pre post (some ⟨gj, 0, none⟩) jn jc la ln lc (yesC c k hk shard) F' ∧ lay.Frame (X :: F) w (W4.setCell ⟨gj, k * 4 + 3, none⟩ (.slice ra rn rc)) ∧ Fresh w F F' := by
  obtain ⟨hbx, hown, hXF⟩ := h
  obtain ⟨vx, vy, F1, F2, e, hwf, hj, hl, hFe, hnd⟩ := coord_own.1 hown
  simp only [List.cons.injEq, and_true, true_and] at e
  obtain ⟨rfl, rfl⟩ := e
  obtain ⟨vj, qj, e, hF1, hJ⟩ := hj
  simp only [List.cons.injEq, and_true] at e
  subst e
  have hl0 := hJ.len
  have hqk : k < qj.length := by omega
  have hu := hJ.each k hk
  have hcl := hJ.cells k hk
  obtain ⟨v1, v2, e, k1, k3, h1, h2, h3, h4⟩ := job_own.1 hu
  obtain ⟨ya, yl, yc, rfl⟩ : ∃ ya yl yc, v2 = .slice ya yl yc := by
    rcases h2.2.2 with ⟨e, _⟩ | ⟨g', c', cur, e, _⟩
    · exact ⟨_, _, _, e⟩
    · exact ⟨_, _, _, e⟩
  have d3 := hcl 3 (.slice ya yl yc) (by rw [e]; rfl)
  rw [show k * jobR.size + 3 = k * 4 + 3 from rfl] at d3
  have hbq : ∀ b ∈ qj[k].2, b ∈ blocksOf qj := fun b hb => List.mem_flatMap.2 ⟨_, List.getElem_mem _, hb⟩
  have hyF : ∀ b ∈ (Value.slice ya yl yc).ownBlock.toList, b ∈ qj[k].2 := fun b hb => by rw [h3]; exact List.mem_append.2 (.inr hb)
  have hgj1 : gj ∈ F1 := by rw [hF1]; exact List.mem_append.2 (.inl (by simp [Value.ownBlock]))
  have hgjF : gj ∈ F := by rw [hFe]; exact List.mem_append.2 (.inl hgj1)
  have hXj : gj ≠ X := fun e => hXF (e ▸ hgjF)
  have hqF1 : ∀ b ∈ blocksOf qj, b ∈ F1 := fun b hb => by rw [hF1]; exact List.mem_append.2 (.inr hb)
  have hF1F : ∀ b ∈ F1, b ∈ F := fun b hb => by rw [hFe]; exact List.mem_append.2 (.inl hb)
  have hgn : gj ∉ blocksOf qj := (nodup_parts hJ.nodup).2.2 gj (by simp [Value.ownBlock])
  have hlts : ∀ b ∈ gj :: blocksOf qj, b < w.heap.size := fun b hb => hJ.lts b hb
  refine ⟨ya, yl, yc, d3, fun i => hJ.frozen i, h2, fun e => hgn (hbq gj (hyF gj (by rw [e]; simp))), fun b hb => hlts b (List.mem_cons_of_mem _ (hbq b (hyF b hb))), fun W4 ra rn rc hg hyr hb => ?_⟩
  have hnr : ∀ b, b ∉ qj[k].2 → some b ≠ (Value.slice ya yl yc).ownBlock := fun b hb e => hb (hyF b (by rw [← e]; simp))
  have hoF : ∀ b ∈ v1.ownBlock.toList, b ∈ qj[k].2 := fun b hb => by rw [h3]; exact List.mem_append.2 (.inl hb)
  have hnk := h4
  rw [h3] at hnk
  have hoy := (nodup_parts hnk).2.2
  have hov : OwnV W4 0 v1 c.2.2.2.1[k].2.1 := h1.of_block fun b hb2 => hg.block b (hlts b (List.mem_cons_of_mem _ (hbq b (hoF b (by rw [hb2]; simp))))) (fun e => hoy b (by rw [hb2]; simp) (by rw [← e]; simp))
  have hFRl := intsR.ownNodup (ints_own.2 ⟨hyr, rfl⟩)
  obtain ⟨hJ5, hg5⟩ := hJ.cellW (W4 := W4) k hk (fun b hb2 hb3 => hg.block b hb2 (hnr b hb3)) 3 (by decide) (.slice ra rn rc) (c.2.2.2.1[k].1, c.2.2.2.1[k].2.1, c.2.2.2.1[k].2.2.1, putI c.2.2.2.1[k].2.2.2 shard) (v1.ownBlock.toList ++ (Value.slice ra rn rc).ownBlock.toList) (by
    rw [e]
    refine job_own.2 ⟨_, _, rfl, k1, k3, hov, hyr, rfl, nodup_mk (nodup_parts hnk).1 hFRl fun b hb1 hb2 => ?_⟩
    rcases hb b hb2 with e2 | e2
    · exact hoy b hb1 e2
    · have := hlts b (List.mem_cons_of_mem _ (hbq b (hoF b hb1))); omega) (fun b hb1 => by
    rcases List.mem_append.1 hb1 with e2 | e2
    · exact .inl (hoF b e2)
    · exact (hb b e2).imp_left (hyF b))
  rw [show k * jobR.size + 3 = k * 4 + 3 from rfl] at hJ5 hg5
  obtain ⟨q5, hq5⟩ : ∃ q5, qj.set k (qj[k].1.set 3 (.slice ra rn rc), v1.ownBlock.toList ++ (Value.slice ra rn rc).ownBlock.toList) = q5 := ⟨_, rfl⟩
  have hq5b : ∀ b ∈ blocksOf q5, b ∈ blocksOf qj ∨ w.heap.size ≤ b := fun b hb1 => by
    rw [← hq5] at hb1
    obtain ⟨p, hp, hb2⟩ := List.mem_flatMap.1 hb1
    rcases List.mem_or_eq_of_mem_set hp with e2 | e2
    · exact .inl (List.mem_flatMap.2 ⟨p, e2, hb2⟩)
    · rw [e2] at hb2
      rcases List.mem_append.1 hb2 with e3 | e3
      · exact .inl (hbq b (hoF b e3))
      · exact (hb b e3).imp_left fun e4 => hbq b (hyF b e4)
  rw [hq5] at hJ5
  obtain ⟨W5, hW5⟩ : ∃ W5, W4.setCell ⟨gj, k * 4 + 3, none⟩ (.slice ra rn rc) = W5 := ⟨_, rfl⟩
  rw [hW5] at hJ5 hg5 ⊢
  have hnd' := hnd
  rw [hFe] at hnd'
  have hjlb := (nodup_parts hnd').2.2
  have hsz4 := hg.size
  have hXr : some X ≠ (Value.slice ya yl yc).ownBlock := hnr X fun e => hXF (hF1F X (hqF1 X (hbq X e)))
  have hl5 : logR.own W5 [.slice la ln lc] c.2.2.2.2.1 F2 := logR.ownAt hl fun b hb1 => by
    have hlt := logR.ownLt hl b hb1
    refine (hg5.block b (by omega) fun e => hjlb gj hgj1 (Option.some.inj e ▸ hb1)).trans (hg.block b hlt (hnr b fun e => hjlb b (hqF1 b (hbq b e)) hb1))
  have hF5 : lay.Frame (X :: F) w W5 := (lay.Frame.of_grown (G := X :: F) hg (fun b e => .inl (List.mem_cons_of_mem _ (hF1F b (hqF1 b (hbq b (hyF b (by rw [e]; simp)))))))).grown hg5 (fun b e => by cases e; exact .inl (List.mem_cons_of_mem _ hgjF))
  have hFr : Fresh w F (gj :: blocksOf q5 ++ F2) := fun b hb1 => by
    rcases List.mem_append.1 hb1 with e2 | e2
    · rcases List.mem_cons.1 e2 with e3 | e3
      · rw [e3]; exact .inl hgjF
      · exact (hq5b b e3).imp_left fun e4 => hF1F b (hqF1 b e4)
    · exact .inl (by rw [hFe]; exact List.mem_append.2 (.inr e2))
  have hXlt := hbx.lt
  refine ⟨gj :: blocksOf q5 ++ F2, ⟨(hbx.grown hg hXr).grown hg5 (fun e => hXj (Option.some.inj e).symm), coord_own.2 ⟨_, _, gj :: blocksOf q5, F2, rfl, ⟨hwf.n, hwf.life, hwf.next, hwf.sure⟩, ⟨_, q5, rfl, by simp [Value.ownBlock], hJ5⟩, hl5, rfl, ?_⟩, fun e => ?_⟩, hF5, hFr⟩
  · refine nodup_mk (by simpa [Value.ownBlock] using hJ5.nodup) (nodup_parts hnd').2.1 fun b hb1 hb2 => ?_
    have hlt := logR.ownLt hl b hb2
    rcases List.mem_cons.1 hb1 with e3 | e3
    · exact hjlb gj hgj1 (e3 ▸ hb2)
    · rcases hq5b b e3 with e4 | e4
      · exact hjlb b (hqF1 b e4) hb2
      · omega
  · rcases hFr X e with e2 | e2
    · exact hXF e2
    · omega
theorem grow_on {w V w6 : World} {o : Obj} {row : Option Nat} (hV : w.alloc o = V) (h : V.grownBy w6 row) : w.grownBy w6 row := by
  subst hV
  exact ⟨h.os, h.tape, h.output, Nat.le_trans (by simp) h.size, fun k hk hne => (h.block k (by simp; omega) hne).trans (heap_alloc_old w _ hk)⟩
set_option maxRecDepth 100000 in
set_option maxHeartbeats 4000000 in
theorem i_addYes : AddsYes 86 := by
  intro X T pre post gj jn jc la ln lc c F k hk shard w h hsw hasc hy8
  obtain ⟨ya0, yl0, yc0, d30, fz0, hyv0, -, -, -⟩ := h.yes k hk shard
  have hSl := (ints_see.1 (intsR.ownSee (ints_own.2 ⟨hyv0, rfl⟩))).1.1
  have hl0 := hSl.1
  have HBS := Hid.mk' (search_int ya0 yl0 yc0 c.2.2.2.1[k].2.2.2 shard w hSl hasc (by omega))
  clear hSl fz0 hyv0 hl0
  by_cases hin : shard ∈ c.2.2.2.1[k].2.2.2
  · rw [decide_eq_true hin] at HBS
    have HE : Hid (yesC c k hk shard = c) := by
      show _ = _
      unfold yesC
      rw [show putI c.2.2.2.1[k].2.2.2 shard = c.2.2.2.1[k].2.2.2 from if_pos hin, List.set_getElem_self hk]
    have HPP : Hid (∀ wx, Below w.heap.size w wx → ∃ F', InCo wx X T pre post (some ⟨gj, 0, none⟩) jn jc la ln lc (yesC c k hk shard) F' ∧ lay.Frame (X :: F) w wx ∧ Fresh w F F') := fun wx hx => ⟨F, by rw [HE.out]; exact h.below hx, lay.Frame.of_below hx, Fresh.refl _ _⟩
    generalize List.countP (fun z => decide (z < shard)) c.2.2.2.1[k].2.2.2 = n at *
    clear hin h HE
    go_enter Tryz.func86, Tryz.ntmps86
    go_wp2_with fail
    refine HBS.out.mono ?_
    rintro e w1 ⟨rfl, hb1⟩
    have HP := Hid.mk' (HPP.out w1 hb1)
    clear HBS HPP
    go_wp2_with fail
    first | (refine bodyPost_end (v := .tuple #[]) ?_ rfl ⟨rfl, HP.out⟩) | (refine bodyPost_ret (v := .tuple #[]) ?_ rfl ⟨rfl, HP.out⟩)
    simp [results, Tryz.results86, go_sem]
  · rw [decide_eq_false hin] at HBS
    have hcp := List.countP_le_length (p := fun z => decide (z < shard)) (l := c.2.2.2.1[k].2.2.2)
    have HPUT := Hid.mk' (putI_count hasc hin)
    generalize List.countP (fun z => decide (z < shard)) c.2.2.2.1[k].2.2.2 = n at *
    clear hin
    go_enter Tryz.func86, Tryz.ntmps86
    go_wp2_with fail
    refine HBS.out.mono ?_
    rintro e w1 ⟨rfl, hb1⟩
    clear HBS d30
    have hI := h.below hb1
    have HFR : Hid (lay.Frame (X :: F) w w1) := lay.Frame.of_below hb1
    obtain ⟨ya, yl, yc, d3, fz, hyv, hyg, hylt, back⟩ := hI.yes k hk shard
    obtain ⟨V, hV⟩ : ∃ V, w1.alloc (.cells #[.int .i64 shard] 3) = V := ⟨_, rfl⟩
    have hbv : Below w1.heap.size w1 V := by rw [← hV]; exact below_make
    have hyV : OwnZV V (.slice ya yl yc) c.2.2.2.1[k].2.2.2 := (ints_own.1 (intsR.ownBelow (ints_own.2 ⟨hyv, rfl⟩) hbv)).1
    have hyl : c.2.2.2.1[k].2.2.2.length = yl := (ints_see.1 (intsR.ownSee (ints_own.2 ⟨hyv, rfl⟩))).1.1.1
    have hvn : V.heap[w1.heap.size]? = some (.cells #[.int .i64 shard] 3 (0, 0)) := by rw [← hV]; exact heap_alloc_new _ _
    have HINS := Hid.mk' (insert_int ya yl yc n w1.heap.size c.2.2.2.1[k].2.2.2 shard V hyV hyl (by omega) (by omega) hsw hvn (fun e => by have := hylt w1.heap.size (by rw [e]; simp); omega))
    have dV := (hbv.cell (p := ⟨gj, k * 4 + 3, none⟩) (World.block_lt_of_cell? _ _ d3)).trans d3
    have fV : V.frozen? ⟨gj, k * 4 + 3, none⟩ = false := (World.frozen?_of_block (hbv.block gj (World.block_lt_of_cell? _ _ d3))).trans (fz _)
    have HV := Hid.mk' hV
    have HVS : Hid (w1.heap.size ≤ V.heap.size) := hbv.size
    clear hV hvn hyV hyv hylt hI hbv h hyl fz hcp hb1 hasc hy8
    go_wp2_with fail
    rw [HV.out]
    refine HINS.out.mono ?_
    rintro e w6 ⟨ra, rc, rfl, hO6, hra, hg6⟩
    have d6 : w6.cell? ⟨gj, k * 4 + 3, none⟩ = some (.slice ya yl yc) := (World.cell?_of_block (hg6.block gj (World.block_lt_of_cell? _ _ dV) (fun e => hyg e.symm))).trans dV
    have f6 : w6.frozen? ⟨gj, k * 4 + 3, none⟩ = false := (World.frozen?_of_block (hg6.block gj (World.block_lt_of_cell? _ _ dV) (fun e => hyg e.symm))).trans fV
    have hgD : w1.grownBy w6 (Value.slice ya yl yc).ownBlock := grow_on HV.out hg6
    obtain ⟨F', hI', hF', hfr'⟩ := back w6 _ _ _ hgD (by rw [HPUT.out]; exact hO6) (fun b hb => by
      have e : b = ra := by simpa [Value.ownBlock] using hb
      rw [e]
      rcases hra with e2 | e2
      · exact .inl (by rw [← e2]; simp)
      · exact .inr (by have := HVS.out; omega))
    obtain ⟨U, hU⟩ : ∃ U, w6.setCell ⟨gj, k * 4 + 3, none⟩ (.slice (some ⟨ra, 0, none⟩) (yl + 1) rc) = U := ⟨_, rfl⟩
    rw [hU] at hI' hF'
    have HP : Hid (∃ F', InCo U X T pre post (some ⟨gj, 0, none⟩) jn jc la ln lc (yesC c k hk shard) F' ∧ lay.Frame (X :: F) w U ∧ Fresh w F F') := ⟨F', hI', HFR.out.trans hF' (Fresh.refl _ _), (Fresh.refl w F).trans hfr' HFR.out.size⟩
    have HU := Hid.mk' hU
    clear hI' hF' hfr' hU hO6 hgD hg6 hra back HINS d3 dV fV
    go_wp2_with fail
    rw [HU.out]
    first | (refine bodyPost_end (v := .tuple #[]) ?_ rfl ⟨rfl, HP.out⟩) | (refine bodyPost_ret (v := .tuple #[]) ?_ rfl ⟨rfl, HP.out⟩)
    simp [results, Tryz.results86, go_sem]
end Go.Proofs.YtdeaiefhegjalaaGreat.cos

namespace Go.Proofs.YtdeaiefhegjalaaGreat.cos
open Go Go.RowKit Go.Proofs.YtdeaiefhegjalaaGreat.base Go.Proofs.YtdeaiefhegjalaaGreat.pairs Go.Proofs.YtdeaiefhegjalaaGreat.ords Go.Proofs.YtdeaiefhegjalaaGreat.lay Go.Proofs.YtdeaiefhegjalaaGreat.wds
set_option linter.unusedVariables false
set_option linter.unusedSimpArgs false

set_option maxRecDepth 100000 in
set_option maxHeartbeats 4000000 in
theorem impl_vote (HAY : AddsYes 86) (ja : Option Addr) (jn jc : Nat) (la : Option Addr) (ln lc : Nat) (c : Co) (shard tx : Int) (yes : Bool) (w : World) (h : SeeCo w ja jn jc la ln lc c) (hbd : BoundCo c) (hsw : (Lit.int .i64 shard).wf = true) (htw : (Lit.int .i64 tx).wf = true) :
    Calls Tryz.prog 21 #[coV c.1 c.2.1 c.2.2.1 c.2.2.2.2.2 ja jn jc la ln lc, .int .i64 shard, .int .i64 tx, .bool yes] w (RetR coordR w (voteR c shard tx yes)) := by
  have hwf := h.wf
  have hll := h.log.1
  have hl8 := hbd.log
  obtain ⟨W, hW⟩ : ∃ W, (w.alloc (.cells #[.int .i64 c.1, .int .i64 c.2.1, .int .i64 c.2.2.1, .slice ja jn jc, .slice la ln lc, .int .i64 c.2.2.2.2.2] 33)).alloc (.cells #[.int .i64 0, .int .i64 0, .int .i64 0, .slice none 0 0, .slice none 0 0, .int .i64 0] 33) = W := ⟨_, rfl⟩
  have hB : Below w.heap.size w W := by rw [← hW]; exact ((Below.refl _ _).alloc (Nat.le_refl _) _).alloc (by simp) _
  have hA : BoxIn w.heap.size 33 [] [.int .i64 c.1, .int .i64 c.2.1, .int .i64 c.2.2.1, .slice ja jn jc, .slice la ln lc, .int .i64 c.2.2.2.2.2] [] W := by rw [← hW]; exact (boxIn_new w _ _).below below_make
  have hR : BoxIn (w.heap.size + 1) 33 [] [.int .i64 0, .int .i64 0, .int .i64 0, .slice none 0 0, .slice none 0 0, .int .i64 0] [] W := by
    rw [← hW]
    have := boxIn_new (w.alloc (.cells #[.int .i64 c.1, .int .i64 c.2.1, .int .i64 c.2.2.1, .slice ja jn jc, .slice la ln lc, .int .i64 c.2.2.2.2.2] 33)) [.int .i64 0, .int .i64 0, .int .i64 0, .slice none 0 0, .slice none 0 0, .int .i64 0] 33
    rwa [show (w.alloc (.cells #[.int .i64 c.1, .int .i64 c.2.1, .int .i64 c.2.2.1, .slice ja jn jc, .slice la ln lc, .int .i64 c.2.2.2.2.2] 33)).heap.size = w.heap.size + 1 by simp] at this
  have hRl := hR.lt
  have HOC := Hid.mk' (i_ownCoord ja jn jc la ln lc c W (h.below hB) hbd)
  have HCK := Hid.mk' (fun wx (hx : Below w.heap.size w wx) => impl_coordOk ja jn jc la ln lc c wx (h.below hx) hbd.fits)
  have HW := Hid.mk' hW
  obtain ⟨a0, a1, a2, a3, a4, a5⟩ := cells6 hA
  rw [← hW] at a0 a1 a2 a3 a4 a5
  clear hW h
  go_enter Tryz.func21, Tryz.ntmps21
  go_wp2_with fail
  rw [HW.out]
  refine HOC.out.mono ?_
  rintro e w1 ⟨vs, F, rfl, hO, hF, hb1⟩
  obtain ⟨xja, xjn, xjc, xla, xln, xlc, rfl⟩ := coord_shape hO
  have hB1 := hB.trans (hb1.mono hB.size)
  obtain ⟨V, hV⟩ : ∃ V, w1.alloc (.cells #[.int .i64 c.1, .int .i64 c.2.1, .int .i64 c.2.2.1, .slice xja xjn xjc, .slice xla xln xlc, .int .i64 c.2.2.2.2.2] 33) = V := ⟨_, rfl⟩
  have hbv : Below w1.heap.size w1 V := by rw [← hV]; exact below_make
  have hBV := hB1.trans (hbv.mono hB1.size)
  have hX := inR_new (T := 33) hO
  rw [hV] at hX
  have hRV := (hR.below hb1).below hbv
  have hAV := (hA.below hb1).below hbv
  have hw1 := hb1.size
  have HOK := Hid.mk' (HCK.out V hBV)
  have HV := Hid.mk' hV
  have HA := Hid.mk' hAV
  clear a0 a1 a2 a3 a4 a5 HOC HCK hO hV
  obtain ⟨a0, a1, a2, a3, a4, a5⟩ := cells6 hAV
  rw [← HV.out] at a0 a1 a2 a3 a4 a5
  clear hAV
  cases hok : coordOk c
  · rw [hok] at HOK
    have HE : Hid (voteR c shard tx yes = c) := by show _ = _; unfold voteR; rw [if_neg (by rw [hok]; decide)]
    clear hok HAY
    go_wp2_with fail
    rw [HV.out]
    refine HOK.out.mono ?_
    rintro e w2 ⟨rfl, hb2⟩
    clear a0 a1 a2 a3 a4 a5 HOK
    have hR2 := hRV.below hb2
    have hX2 := hX.below hb2
    have hB2 := hBV.trans (hb2.mono hBV.size)
    have hXlt := hX2.lt
    obtain ⟨q0, q1, q2, q3, q4, q5⟩ := cells6 hX2.box
    obtain ⟨z0, z1, z2, z3, z4, z5⟩ := cells6 hR2
    have f0 := hR2.fz 0
    have f1 := hR2.fz 1
    have f2 := hR2.fz 2
    have f3 := hR2.fz 3
    have f4 := hR2.fz 4
    have f5 := hR2.fz 5
    have hS := hR2.whole [.int .i64 c.1, .int .i64 c.2.1, .int .i64 c.2.2.1, .slice xja xjn xjc, .slice xla xln xlc, .int .i64 c.2.2.2.2.2] rfl
    obtain ⟨y0, y1, y2, y3, y4, y5⟩ := cells6 hS.1
    simp only [putAll, Nat.zero_add, Nat.reduceAdd] at y0 y1 y2 y3 y4 y5
    have hO2 := coordR.ownGrown hX2.own hS.2 (fun b hb e => by have := hF b hb; cases e; omega)
    have hBz := hB2.grown hS.2 hB2.size (fun j e => by cases e; omega)
    have hFN : ∀ b ∈ F, w.heap.size ≤ b := fun b hb => by have := hF b hb; have := hB.size; omega
    have HRET := Hid.mk' (show RetR coordR w (voteR c shard tx yes) (.returned (.agg #[.int .i64 c.1, .int .i64 c.2.1, .int .i64 c.2.2.1, .slice xja xjn xjc, .slice xla xln xlc, .int .i64 c.2.2.2.2.2])) _ from by rw [HE.out]; exact ⟨_, _, rfl, hO2, hFN, hBz⟩)
    clear hO2 hS hBz hFN
    go_wp2_with fail
    refine bodyPost_ret (v := .agg #[.int .i64 c.1, .int .i64 c.2.1, .int .i64 c.2.2.1, .slice xja xjn xjc, .slice xla xln xlc, .int .i64 c.2.2.2.2.2]) ?_ rfl HRET.out
    simp [results, Tryz.results21, go_sem, y0, y1, y2, y3, y4, y5]
  rw [hok] at HOK
  have hRt := coordOk_iff.1 hok
  have hBeq : voteR c shard tx yes = voteS c shard tx yes := by unfold voteR; rw [if_pos hok]
  clear hok
  have HLL := Hid.mk' hll
  clear hll
  by_cases hfull : 1000 ≤ ln
  · have HE : Hid (voteR c shard tx yes = c) := by
      show _ = _
      rw [hBeq]
      refine voteS_none ?_
      cases e : votes c shard tx with
      | none => rfl
      | some k => obtain ⟨_, _, _, h1, _⟩ := votes_some e; have := HLL.out; omega
    have hfi : ¬ (ln : Int) < 1000 := by omega
    have hfi2 : (1000 : Int) ≤ (ln : Int) := by omega
    clear hBeq hRt HAY
    go_wp2_with fail
    rw [HV.out]
    refine HOK.out.mono ?_
    rintro e w2 ⟨rfl, hb2⟩
    clear a0 a1 a2 a3 a4 a5 HOK
    have a4 := ((HA.out.below hb2).cell 4 _ rfl)
    simp only [List.length_nil, Nat.zero_add] at a4
    have hR2 := hRV.below hb2
    have hX2 := hX.below hb2
    have hB2 := hBV.trans (hb2.mono hBV.size)
    have hXlt := hX2.lt
    obtain ⟨q0, q1, q2, q3, q4, q5⟩ := cells6 hX2.box
    obtain ⟨z0, z1, z2, z3, z4, z5⟩ := cells6 hR2
    have f0 := hR2.fz 0
    have f1 := hR2.fz 1
    have f2 := hR2.fz 2
    have f3 := hR2.fz 3
    have f4 := hR2.fz 4
    have f5 := hR2.fz 5
    have hS := hR2.whole [.int .i64 c.1, .int .i64 c.2.1, .int .i64 c.2.2.1, .slice xja xjn xjc, .slice xla xln xlc, .int .i64 c.2.2.2.2.2] rfl
    obtain ⟨y0, y1, y2, y3, y4, y5⟩ := cells6 hS.1
    simp only [putAll, Nat.zero_add, Nat.reduceAdd] at y0 y1 y2 y3 y4 y5
    have hO2 := coordR.ownGrown hX2.own hS.2 (fun b hb e => by have := hF b hb; cases e; omega)
    have hBz := hB2.grown hS.2 hB2.size (fun j e => by cases e; omega)
    have hFN : ∀ b ∈ F, w.heap.size ≤ b := fun b hb => by have := hF b hb; have := hB.size; omega
    have HRET := Hid.mk' (show RetR coordR w (voteR c shard tx yes) (.returned (.agg #[.int .i64 c.1, .int .i64 c.2.1, .int .i64 c.2.2.1, .slice xja xjn xjc, .slice xla xln xlc, .int .i64 c.2.2.2.2.2])) _ from by rw [HE.out]; exact ⟨_, _, rfl, hO2, hFN, hBz⟩)
    clear hO2 hS hBz hFN
    go_wp2_with fail
    refine bodyPost_ret (v := .agg #[.int .i64 c.1, .int .i64 c.2.1, .int .i64 c.2.2.1, .slice xja xjn xjc, .slice xla xln xlc, .int .i64 c.2.2.2.2.2]) ?_ rfl HRET.out
    simp [results, Tryz.results21, go_sem, y0, y1, y2, y3, y4, y5]
  have hfi : (ln : Int) < 1000 := by omega
  have hfi2 : ¬ (1000 : Int) ≤ (ln : Int) := by omega
  have hxj : ∃ gj, xja = some ⟨gj, 0, none⟩ ∨ c.2.2.2.1 = [] := by
    obtain ⟨vx, vy, F1, F2, e, hwf, hj, hl, hFe, hnd⟩ := coord_own.1 hX.own
    simp only [List.cons.injEq, and_true, true_and] at e
    obtain ⟨rfl, rfl⟩ := e
    obtain ⟨vj, qj, e, hF1, hJ⟩ := hj
    simp only [List.cons.injEq, and_true] at e
    subst e
    rcases hJ.shape with ⟨_, e, _⟩ | ⟨g, cap, e, _⟩
    · exact ⟨0, .inr e⟩
    · cases e; exact ⟨g, .inl rfl⟩
  have hjs : ∀ wx, Below V.heap.size V wx → SlG jobR wx xja xjn c.2.2.2.1 := fun wx hx => by
    obtain ⟨vx, vy, F1, F2, e, hwf, hj, hl, hFe, hnd⟩ := coord_own.1 (hX.below hx).own
    simp only [List.cons.injEq, and_true, true_and] at e
    obtain ⟨rfl, rfl⟩ := e
    obtain ⟨vj, qj, e, hF1, hJ⟩ := hj
    simp only [List.cons.injEq, and_true] at e
    subst e
    exact hJ.sl
  have HXJ := Hid.mk' hxj
  have HJS := Hid.mk' hjs
  have HBQ := Hid.mk' hBeq
  have HRT := Hid.mk' hRt
  have hjl := hbd.jobs
  clear hxj hjs hBeq hRt hfull
  go_wp2_with fail
  rw [HV.out]
  refine HOK.out.mono ?_
  rintro e w2 ⟨rfl, hb2⟩
  clear a0 a1 a2 a3 a4 a5 HOK
  have a4 := ((HA.out.below hb2).cell 4 _ rfl)
  simp only [List.length_nil, Nat.zero_add] at a4
  have hX2 := hX.below hb2
  have x3 := hX2.box.cell 3 _ rfl
  simp only [List.length_nil, Nat.zero_add] at x3
  have hjn8 : xjn ≤ 1099511627776 := by have := (HJS.out w2 hb2).1; omega
  have HASK := Hid.mk' (i_asking w1.heap.size xja xjn xjc c.2.2.2.1 tx w2 x3 (HJS.out w2 hb2) hjn8)
  clear hX2 x3 hjl
  go_wp2_with fail
  refine HASK.out.mono ?_
  rintro e w3 ⟨hw3, hcase⟩
  replace hw3 := hw3.symm
  subst hw3
  clear HASK
  rcases hcase with ⟨hno, rfl⟩ | ⟨k, b, off, hat, hk, hxe, rfl⟩
  · have HE : Hid (voteR c shard tx yes = c) := by
      show _ = _
      rw [HBQ.out]
      refine voteS_none ?_
      rw [askAt_votes HRT.out, hno]
    clear hno HAY
    have hR2 := hRV.below hb2
    have hX2 := hX.below hb2
    have hB2 := hBV.trans (hb2.mono hBV.size)
    have hXlt := hX2.lt
    obtain ⟨q0, q1, q2, q3, q4, q5⟩ := cells6 hX2.box
    obtain ⟨z0, z1, z2, z3, z4, z5⟩ := cells6 hR2
    have f0 := hR2.fz 0
    have f1 := hR2.fz 1
    have f2 := hR2.fz 2
    have f3 := hR2.fz 3
    have f4 := hR2.fz 4
    have f5 := hR2.fz 5
    have hS := hR2.whole [.int .i64 c.1, .int .i64 c.2.1, .int .i64 c.2.2.1, .slice xja xjn xjc, .slice xla xln xlc, .int .i64 c.2.2.2.2.2] rfl
    obtain ⟨y0, y1, y2, y3, y4, y5⟩ := cells6 hS.1
    simp only [putAll, Nat.zero_add, Nat.reduceAdd] at y0 y1 y2 y3 y4 y5
    have hO2 := coordR.ownGrown hX2.own hS.2 (fun b hb e => by have := hF b hb; cases e; omega)
    have hBz := hB2.grown hS.2 hB2.size (fun j e => by cases e; omega)
    have hFN : ∀ b ∈ F, w.heap.size ≤ b := fun b hb => by have := hF b hb; have := hB.size; omega
    have HRET := Hid.mk' (show RetR coordR w (voteR c shard tx yes) (.returned (.agg #[.int .i64 c.1, .int .i64 c.2.1, .int .i64 c.2.2.1, .slice xja xjn xjc, .slice xla xln xlc, .int .i64 c.2.2.2.2.2])) _ from by rw [HE.out]; exact ⟨_, _, rfl, hO2, hFN, hBz⟩)
    clear hO2 hS hBz hFN
    go_wp2_with fail
    refine bodyPost_ret (v := .agg #[.int .i64 c.1, .int .i64 c.2.1, .int .i64 c.2.2.1, .slice xja xjn xjc, .slice xla xln xlc, .int .i64 c.2.2.2.2.2]) ?_ rfl HRET.out
    simp [results, Tryz.results21, go_sem, y0, y1, y2, y3, y4, y5]
  · obtain ⟨gj, hgj⟩ := HXJ.out
    have hgj : xja = some ⟨gj, 0, none⟩ := by
      rcases hgj with e | e
      · exact e
      · rw [e] at hk; cases hk
    rw [hgj] at hxe
    simp only [Option.some.injEq, Addr.mk.injEq, and_true] at hxe
    obtain ⟨rfl, rfl⟩ := hxe
    subst hgj
    have hX2 := hX.below hb2
    have hvt : votes c shard tx = if shard ∈ shardsOf c.1 c.2.2.2.1[k].2.1 then some k else none := by
      rw [askAt_votes HRT.out, hat]
      simp only [List.getElem?_eq_getElem hk]
      have := HLL.out
      by_cases hin : shard ∈ shardsOf c.1 c.2.2.2.1[k].2.1
      · rw [if_pos ⟨by omega, hin⟩, if_pos hin]
      · rw [if_neg (fun e => hin e.2), if_neg hin]
    have HE : Hid (voteR c shard tx yes = heardC c k hk shard yes) := by
      show _ = _
      rw [HBQ.out]
      unfold heardC
      by_cases hin : shard ∈ shardsOf c.1 c.2.2.2.1[k].2.1
      · rw [if_pos hin] at hvt ⊢
        exact voteS_eq hvt hk
      · rw [if_neg hin] at hvt ⊢
        exact voteS_none hvt
    have hfine := HRT.out.jobs _ (List.getElem_mem hk)
    have HHE := Hid.mk' (i_hear HAY w1.heap.size 33 [] [] gj xjn xjc xla xln xlc c F k hk shard yes w2 ⟨hX2.box, hX2.own, hX2.out⟩ hbd.log hsw (hbd.fits.2.2 _ (List.getElem_mem hk)).2 hfine.ops (yes_len HRT.out.n hfine.yes))
    simp only [List.length_nil, Nat.zero_add] at HHE
    simp only [Nat.zero_add]
    generalize heardC c k hk shard yes = R at *
    have hR2 := hRV.below hb2
    have hB2 := hBV.trans (hb2.mono hBV.size)
    have hXlt := hX2.lt
    clear hvt hat HAY hfine
    go_wp2_with fail
    refine HHE.out.mono ?_
    rintro e w3 ⟨rfl, yja, yjn, yjc, yla, yln, ylc, F3, hI3, hf3, hfr3⟩
    have hR3 := hR2.frame hf3 (fun e => by
      rcases List.mem_cons.1 e with e | e
      · omega
      · have := hF _ e; omega)
    have hb1s := hB1.size
    have hF3 : ∀ b ∈ F3, W.heap.size ≤ b := fun b hb => by
      have h2 := hb2.size
      have h3 := hbv.size
      rcases hfr3 b hb with e | e
      · exact hF b e
      · omega
    have hB3 : Below w.heap.size w w3 := hB2.trans (hf3.bel hB2.size fun b hb => by
      have := hB.size
      rcases List.mem_cons.1 hb with e | e
      · omega
      · have := hF b e; omega)
    clear HHE
    obtain ⟨q0, q1, q2, q3, q4, q5⟩ := cells6 hI3.box
    obtain ⟨z0, z1, z2, z3, z4, z5⟩ := cells6 hR3
    have f0 := hR3.fz 0
    have f1 := hR3.fz 1
    have f2 := hR3.fz 2
    have f3 := hR3.fz 3
    have f4 := hR3.fz 4
    have f5 := hR3.fz 5
    have hS := hR3.whole [.int .i64 R.1, .int .i64 R.2.1, .int .i64 R.2.2.1, .slice yja yjn yjc, .slice yla yln ylc, .int .i64 R.2.2.2.2.2] rfl
    obtain ⟨y0, y1, y2, y3, y4, y5⟩ := cells6 hS.1
    simp only [putAll, Nat.zero_add, Nat.reduceAdd] at y0 y1 y2 y3 y4 y5
    have hO2 := coordR.ownGrown hI3.own hS.2 (fun b hb e => by have := hF3 b hb; cases e; omega)
    have hBz := hB3.grown hS.2 hB3.size (fun j e => by cases e; omega)
    have hFN : ∀ b ∈ _, w.heap.size ≤ b := fun b hb => by have := hF3 b hb; have := hB.size; omega
    have HRET := Hid.mk' (show RetR coordR w (voteR c shard tx yes) (.returned (.agg #[.int .i64 R.1, .int .i64 R.2.1, .int .i64 R.2.2.1, .slice yja yjn yjc, .slice yla yln ylc, .int .i64 R.2.2.2.2.2])) _ from by rw [HE.out]; exact ⟨_, _, rfl, hO2, hFN, hBz⟩)
    clear hO2 hS hBz hFN
    go_wp2_with fail
    refine bodyPost_ret (v := .agg #[.int .i64 R.1, .int .i64 R.2.1, .int .i64 R.2.2.1, .slice yja yjn yjc, .slice yla yln ylc, .int .i64 R.2.2.2.2.2]) ?_ rfl HRET.out
    simp [results, Tryz.results21, go_sem, y0, y1, y2, y3, y4, y5]
end Go.Proofs.YtdeaiefhegjalaaGreat.cos
