/- One cell of an element of a row is written, and what the element owns may change with it. No function of the program is named here. The specification's number put into ascending ones, whoever owns them. -/
import Derived.Test.YtdeaiefhegjalaaBund12bc
import Derived.Test.YtdeaiefhegjalaaBund12ak
import Derived.Test.YtdeaiefhegjalaaBund12be
namespace Go.Proofs.Ytdeaiefhegjalaa.lay
open Go Go.RowKit Go.Proofs.Ytdeaiefhegjalaa.base
set_option linter.unusedVariables false

theorem OwnG.cellF {α : Type} {ty : TypeId} {R : Rd α} {w : World} {g n cap : Nat} {l : List α} {q : Parts} (h : OwnG ty R w (.slice (some ⟨g, 0, none⟩) n cap) l q) (i : Nat) (hi : i < l.length) (j : Nat) (hj : j < R.size) (u : Value) (x : α) (F' : List Nat) (hx : R.own w ((q[i]'(by have := h.len; omega)).1.set j u) x F') (hN : ∀ b ∈ F', b ∈ (q[i]'(by have := h.len; omega)).2 ∨ b ∉ g :: blocksOf q) :
    OwnG ty R (w.setCell ⟨g, i * R.size + j, none⟩ u) (.slice (some ⟨g, 0, none⟩) n cap) (l.set i x) (q.set i ((q[i]'(by have := h.len; omega)).1.set j u, F')) ∧ w.grownBy (w.setCell ⟨g, i * R.size + j, none⟩ u) (some g) := by
  have hn : n = l.length := h.nlen
  subst hn
  have hl := h.len
  have hqi : i < q.length := by omega
  have hr := h.row.stored (i * R.size + j) u
  have hp := h.parts
  have hpl := hp _ (List.getElem_mem hqi)
  have e0 : (cellsOf q).set (i * R.size + j) u = cellsOf (q.set i (q[i].1.set j u, F')) := by
    rw [← cellsOf_set hp i hqi (q[i].1.set j u) (by rw [List.length_set]; exact hpl) F']
    have hin : i * R.size + R.size ≤ (cellsOf q).length := by
      rw [cellsOf_length hp]
      have := Nat.mul_le_mul_right R.size (show i + 1 ≤ q.length from hqi)
      rw [Nat.add_mul] at this; omega
    refine List.ext_getElem? fun z => ?_
    rw [setAll_get _ _ _ _ (by rw [List.length_set, hpl]; exact hin), List.length_set, hpl]
    by_cases hz : i * R.size ≤ z ∧ z < i * R.size + R.size
    · rw [if_pos hz]
      obtain ⟨d, rfl⟩ : ∃ d, z = i * R.size + d := ⟨z - i * R.size, by omega⟩
      rw [Nat.add_sub_cancel_left]
      by_cases hd : d = j
      · subst hd
        rw [List.getElem?_set_self (by omega), List.getElem?_set_self (by omega)]
      · rw [List.getElem?_set_ne (by omega), List.getElem?_set_ne (by omega), cellsOf_get hp i hqi d (by omega)]
    · rw [if_neg hz, List.getElem?_set_ne (by omega)]
  rw [e0] at hr
  have hgn : ∀ b ∈ blocksOf q, b ≠ g := fun b hb e => by
    have := (nodup_parts h.nodup).2.2 g (by simp [Value.ownBlock])
    exact this (e ▸ hb)
  have hbq : ∀ k (hk : k < q.length), ∀ b ∈ q[k].2, b ∈ blocksOf q := fun k hk b hb => List.mem_flatMap.2 ⟨_, List.getElem_mem _, hb⟩
  have hFg : ∀ b ∈ F', b ≠ g := fun b hb e => by
    rcases hN b hb with e2 | e2
    · exact hgn b (hbq i hqi b e2) e
    · exact e2 (by rw [e]; exact List.mem_cons_self)
  exact ⟨h.turn i hi _ x _ hr.1 (R.ownAt hx fun k hk => hr.2.block k (R.ownLt hx k hk) fun e => hFg k hk (Option.some.inj e)) (fun k hk hne b hb => hr.2.block b (R.ownLt (h.each k hk) b hb) fun e => hgn b (hbq k (by omega) b hb) (Option.some.inj e)) (fun b hb => (hN b hb).imp_right fun e => by simpa [Value.ownBlock] using e), hr.2⟩
/-- an element of a row of the call's own: its cells, and the way back from a write into one of them -/
theorem OwnG.openF {α : Type} {ty : TypeId} {R : Rd α} {w : World} {g n cap : Nat} {l : List α} {q : Parts} (h : OwnG ty R w (.slice (some ⟨g, 0, none⟩) n cap) l q) (i : Nat) (hi : i < l.length) :
    ∃ us F, R.own w us l[i] F ∧ (∀ j u, us[j]? = some u → w.cell? ⟨g, i * R.size + j, none⟩ = some u) ∧ (∀ k ∈ F, k ∈ blocksOf q) ∧
      ∀ (j : Nat) (u : Value) (x : α) (F' : List Nat), j < R.size → R.own w (us.set j u) x F' → (∀ b ∈ F', b ∈ F ∨ b ∉ g :: blocksOf q) → ∃ q', OwnG ty R (w.setCell ⟨g, i * R.size + j, none⟩ u) (.slice (some ⟨g, 0, none⟩) n cap) (l.set i x) q' ∧ (∀ b ∈ blocksOf q', b ∈ blocksOf q ∨ b ∈ F') ∧ w.grownBy (w.setCell ⟨g, i * R.size + j, none⟩ u) (some g) ∧ ∀ z v, (us.set j u)[z]? = some v → (w.setCell ⟨g, i * R.size + j, none⟩ u).cell? ⟨g, i * R.size + z, none⟩ = some v := by
  have hl := h.len
  obtain ⟨_, _, _, h2, h3, _⟩ := h.open i hi
  refine ⟨(q[i]'(by omega)).1, (q[i]'(by omega)).2, h.each i hi, fun j u hu => ?_, fun k hk => List.mem_flatMap.2 ⟨_, List.getElem_mem _, hk⟩, fun j u x F' hj hx hN => ?_⟩
  · have := h.cells i hi j u hu
    exact this
  · have hc := h.cellF i hi j hj u x F' hx hN
    refine ⟨_, hc.1, fun b hb => ?_, hc.2, fun z v hz => ?_⟩
    · obtain ⟨p, hp, hb2⟩ := List.mem_flatMap.1 hb
      rcases List.mem_or_eq_of_mem_set hp with e | e
      · exact .inl (List.mem_flatMap.2 ⟨p, e, hb2⟩)
      · rw [e] at hb2; exact .inr hb2
    · have := hc.1.cells i (by simpa using hi) z v (by simpa using hz)
      exact this
end Go.Proofs.Ytdeaiefhegjalaa.lay

namespace Go.Proofs.Ytdeaiefhegjalaa.ords
open Go Go.RowKit Go.Proofs.Ytdeaiefhegjalaa.base Go.Proofs.Ytdeaiefhegjalaa.pairs Go.Proofs.Ytdeaiefhegjalaa.lay Go.Proofs.Ytdeaiefhegjalaa.cos
set_option linter.unusedVariables false
set_option linter.unusedSimpArgs false

theorem ownZ_up {w : World} {base g n cap : Nat} {zs : List Int} {v : Value} (h : OwnZV w (.slice (some ⟨g, 0, none⟩) n cap) zs) (hb : base ≤ g) (hl : zs.length = n) (hs : base ≤ w.heap.size) : OwnZ w base g n cap zs := by
  obtain ⟨h1, h2, h3⟩ := h
  refine ⟨hl, by rw [← hl]; exact h2, ?_⟩
  rcases h3 with ⟨e, _⟩ | ⟨g', c', cur, e, h4, h5⟩
  · cases e
  · cases e
    exact .inr ⟨g, _, cur, by rw [hl], hb, h5⟩
set_option maxRecDepth 100000 in
set_option maxHeartbeats 2000000 in
theorem spec_putIn (a : Option Addr) (m cp : Nat) (zs : List Int) (n : Int) (w : World) (h : SlZ w a m zs) (hn : n ∈ zs) :
    Calls Try.prog 39 #[.slice a m cp, .int .i64 n] w fun e w' => e = .returned (.slice a m cp) ∧ w' = w := by
  have HH := Hid.mk' (spec_l7Has a m cp zs n w h)
  rw [decide_eq_true hn] at HH
  clear hn h
  go_enter Try.func39, Try.ntmps39
  go_wp2_with (at_builtin; fail)
  refine HH.out.mono ?_
  rintro e w1 ⟨rfl, hw1⟩
  subst hw1
  go_wp2_with (at_builtin; fail)
  go_ret
  exact ⟨rfl, rfl⟩
set_option maxRecDepth 100000 in
set_option maxHeartbeats 2000000 in
theorem spec_putNew (a : Option Addr) (m cp : Nat) (zs : List Int) (n : Int) (w : World) (h : SlZ w a m zs) (hn : n ∉ zs) (hw : ∀ z ∈ zs, (Lit.int .i64 z).wf = true) (hcp : m ≤ cp) (ha : Asc zs) (hsz : m ≤ 1099511627776) :
    Calls Try.prog 39 #[.slice a m cp, .int .i64 n] w fun e w' =>
      ∃ g' n' cap', e = .returned (.slice (some ⟨g', 0, none⟩) n' cap') ∧ OwnZ w' w.heap.size g' n' cap' (putI zs n) ∧ Below w.heap.size w w' := by
  obtain ⟨i0, hif, hz0, hz1, hz2⟩ := info_parts infoZ
  have hl := h.1
  subst hl
  have HH := Hid.mk' (spec_l7Has a zs.length cp zs n w h)
  · rw [decide_eq_false hn] at HH
    have HN := Hid.mk' hn
    clear hn
    have hba : Below w.heap.size w (w.alloc (.cells #[] 3)) := (Below.refl _ _).alloc (Nat.le_refl _) _
    have hr0 : (w.alloc (.cells #[] 3)).ownsRow 0 3 1 (.slice (some ⟨w.heap.size, 0, none⟩) 0 0) 0 [] := World.ownsRow_made w #[] 0 (Nat.zero_le _) (Nat.zero_le _) (by simp)
    obtain ⟨g1, cap1, w2, hrun, hO0, hgr0, hloc⟩ := copy_ints w.heap.size a zs.length cp 35 hr0 (h.below hba) hw hcp hsz
    have hB1 : Below w.heap.size w w2 := hba.grown hgr0 (le_alloc _ _ (Nat.le_refl _)) (fun k e => by cases e; exact Nat.le_refl _)
    have hg1b : w.heap.size ≤ g1 := by
      rcases hloc with e | e
      · omega
      · have := hba.size; omega
    have hO1 : OwnZ w2 w.heap.size g1 zs.length cap1 zs := ownZ_up (v := .bool true) (ints_own.1 hO0).1 hg1b rfl hB1.size
    go_enter Try.func39, Try.ntmps39
    go_wp2_with (at_builtin; fail)
    refine HH.out.mono ?_
    rintro e w1 ⟨rfl, hw1⟩
    subst hw1
    have hbw2 : w1.heap.size ≤ w2.heap.size := hB1.size
    have hc3 : zs.length + 1 ≤ maxLen := by unfold maxLen; omega
    have hc4 : (zs.length + 1) * 8 ≤ 140737488355328 := by omega
    clear hO0 hgr0 hloc hr0 HH
    go_wp2_with (at_builtin; first | (refine wpList_append_run rfl _ _ 35 rfl rfl rfl hrun ?_) | (refine wpList_append_own _ rfl _ _ 35 rfl w1.heap.size 3 i0 (.int .i64 0) 1 8 Try.underlying35 hif hz0 hz1 hz2 rfl (by decide) _ _ _ rfl (hO1.2.alloc _) ⟨w2.heap.size, 0, none⟩ 1 1 (intVals [n]) rfl rfl (one_int_cells _ _ _) (intVals_oneCell _) hc3 hc4 (le_alloc _ _ hbw2) ?_))
    intro v3 w3 hown hgrow hnn
    obtain ⟨g3, cap3, hv, hO3⟩ := ownZ_app (zs := zs) rfl hnn hown
    subst hv
    have hB3 : Below w1.heap.size w1 w3 := (hB1.alloc hbw2 _).grown hgrow (le_alloc _ _ hbw2) (fun k e => by simp [Value.ownBlock] at e; have := hO1.lt; omega)
    have e0 : zs ++ [n] = gap zs zs.length n := by unfold gap; simp
    rw [e0] at hO3
    clear hown hgrow hnn hO1 hB1 e0
    go_wp2_with (at_builtin; fail)
    go_loopw [6] (fun kv wr => ∃ (k : Nat) (x : Int), k ≤ zs.length ∧ kv = .int .i64 (k : Int) ∧ (∀ y ∈ zs.drop k, n < y) ∧ OwnZ wr w1.heap.size g3 (zs.length + 1) cap3 (gap zs k x) ∧ Below w1.heap.size w1 wr) (fun kv _ => (intOf kv).toNat)
    case atStart => exact ⟨zs.length, n, Nat.le_refl _, by go_num, by simp, hO3, hB3⟩
    case round =>
      clear hO3 hB3
      obtain ⟨k, x, hk, rfl, hd, hO, hB⟩ := hrel
      have hgl := gap_length zs k x hk
      by_cases hk0 : k = 0
      · subst hk0
        have HP : Hid (putI zs n = gap zs 0 n) := putI_at zs n 0 ha HN.out hk hd (.inl rfl)
        have hfz := hO.frozen 0
        have hat := hO.at 0 (by omega)
        have R := ownZ_set hO 0 n
        rw [gap_set zs 0 x n hk, ← HP.out] at R
        have HR := Hid.mk' R
        have hlt3 := hO.lt
        generalize (gap zs 0 x)[0] = y0 at *
        clear R hO hd
        go_wp2_with (at_builtin; fail)
        go_ret
        exact ⟨g3, _, cap3, rfl, HR.out.1, hB.trans (below_grown HR.out.2 hlt3.1 hB.size)⟩
      · obtain ⟨j, rfl⟩ : ∃ j, k = j + 1 := ⟨k - 1, by omega⟩
        have hjz : j < zs.length := by omega
        have hgp := gap_prev zs (j + 1) x (by omega) hk
        simp only [Nat.add_sub_cancel] at hgp
        have hat : wr.cell? ⟨g3, j, none⟩ = some (.int .i64 zs[j]) := by
          have := hO.at j (by omega)
          rw [this]
          have e := List.getElem?_eq_getElem (l := gap zs (j + 1) x) (i := j) (by omega)
          rw [e] at hgp
          rw [Option.some.inj hgp]
        have hat2 := hO.at (j + 1) (by omega)
        have hfz := hO.frozen (j + 1)
        have hj1 : ((j + 1 : Nat) : Int) - 1 = (j : Int) := by omega
        have hjl : ((j : Nat) : Int) < ((zs.length + 1 : Nat) : Int) := by omega
        have hjl2 : ((j + 1 : Nat) : Int) < ((zs.length + 1 : Nat) : Int) := by omega
        have hpos : (0 : Int) < ((j + 1 : Nat) : Int) := by omega
        by_cases hgt : n < zs[j]
        · have R := ownZ_set hO (j + 1) zs[j]
          have hgd := gap_down zs (j + 1) (by omega) hk
          simp only [Nat.add_sub_cancel] at hgd
          rw [gap_set zs (j + 1) x zs[j] hk, hgd] at R
          have HD : Hid (∀ y ∈ zs.drop j, n < y) := by
            intro y hy
            rw [List.drop_eq_getElem_cons hjz] at hy
            rcases List.mem_cons.1 hy with rfl | hy
            · exact hgt
            · exact hd y hy
          have HR := Hid.mk' R
          have hlt3 := hO.lt
          generalize (gap zs (j + 1) x)[j + 1] = y0 at *
          generalize zs[j] = zj at *
          clear R hO hd hgp hgd
          go_wp2_with (at_builtin; fail)
          go_roundw
          case rel => exact ⟨j, zj, by omega, by go_num, HD.out, HR.out.1, hB.trans (below_grown HR.out.2 hlt3.1 hB.size)⟩
          case measure => simp [intOf]
        · have HP : Hid (putI zs n = gap zs (j + 1) n) := putI_at zs n (j + 1) ha HN.out hk hd (.inr ⟨hjz, hgt⟩)
          have R := ownZ_set hO (j + 1) n
          rw [gap_set zs (j + 1) x n hk, ← HP.out] at R
          have HR := Hid.mk' R
          have hlt3 := hO.lt
          generalize (gap zs (j + 1) x)[j + 1] = y0 at *
          generalize zs[j] = zj at *
          clear R hO hd hgp
          go_wp2_with (at_builtin; fail)
          go_ret
          exact ⟨g3, _, cap3, rfl, HR.out.1, hB.trans (below_grown HR.out.2 hlt3.1 hB.size)⟩
end Go.Proofs.Ytdeaiefhegjalaa.ords
