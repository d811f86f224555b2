/- Rows of whole numbers: small facts on worlds; no function of the program is named here. The specification's shards of orders. The specification's orders as bytes. -/
import Derived.Test.YtjodbijcgcjndaaBund10ab
import Derived.Test.YtjodbijcgcjndaaBund10ao
import Derived.OwnWalk
import Derived.Test.YtjodbijcgcjndaaBund10aq
namespace Go.Proofs.Ytjodbijcgcjndaa.ords
open Go Go.RowKit Go.Proofs.Ytjodbijcgcjndaa.base Go.Proofs.Ytjodbijcgcjndaa.pairs
set_option linter.unusedVariables false
set_option linter.unusedSimpArgs false

theorem infoZ : (Try.prog.info? 3).map (fun i => (i.zero, i.size, i.bytes)) = some (some (.int .i64 0), 1, 8) := by kernel_rfl
def intVals (zs : List Int) : List Value := zs.map fun z => .int .i64 z
theorem intVals_length (zs : List Int) : (intVals zs).length = zs.length := by simp [intVals]
theorem intVals_append (a b : List Int) : intVals (a ++ b) = intVals a ++ intVals b := by simp [intVals]
theorem intVals_set (zs : List Int) (k : Nat) (z : Int) : (intVals zs).set k (.int .i64 z) = intVals (zs.set k z) := by simp [intVals]
theorem intVals_oneCell (zs : List Int) : ∀ v ∈ intVals zs, v.oneCell' = true := by
  intro v hv; obtain ⟨_, _, rfl⟩ := List.mem_map.1 hv; rfl
def CellsZ (w : World) (b off : Nat) (zs : List Int) : Prop := ∀ i (h : i < zs.length), w.cell? ⟨b, off + i, none⟩ = some (.int .i64 zs[i])
def SlZ (w : World) (a : Option Addr) (len : Nat) (zs : List Int) : Prop :=
  zs.length = len ∧ len ≤ maxLen ∧ (0 < len → ∃ b off, a = some ⟨b, off, none⟩ ∧ CellsZ w b off zs)
def OwnZ (w : World) (base g n cap : Nat) (zs : List Int) : Prop := zs.length = n ∧ w.ownsRow base 3 1 (.slice (some ⟨g, 0, none⟩) n cap) n (intVals zs)
section
variable {w w' : World} {a : Option Addr} {b off len base base' g n cap : Nat} {zs : List Int} {row : Option Nat}
theorem SlZ.cells (h : SlZ w (some ⟨b, off, none⟩) len zs) : CellsZ w b off zs := by
  intro i hi
  obtain ⟨b', off', e, hc⟩ := h.2.2 (by have := h.1; omega)
  simp only [Option.some.injEq, Addr.mk.injEq, and_true] at e
  obtain ⟨rfl, rfl⟩ := e
  exact hc i hi
theorem SlZ.below (h : SlZ w a len zs) (hb : Below w.heap.size w w') : SlZ w' a len zs := by
  obtain ⟨h1, h2, h3⟩ := h
  refine ⟨h1, h2, fun h0 => ?_⟩
  obtain ⟨b, off, rfl, hc⟩ := h3 h0
  exact ⟨b, off, rfl, fun i hi => (hb.cell (p := ⟨b, off + i, none⟩) (World.block_lt_of_cell? w _ (hc i hi))).trans (hc i hi)⟩
theorem OwnZ.lt (h : OwnZ w base g n cap zs) : base ≤ g ∧ g < w.heap.size := h.2.lt g rfl
theorem OwnZ.cases (h : OwnZ w base g n cap zs) : n ≤ cap ∧ cap ≤ maxLen := by
  rcases h.2.2 with ⟨h', _⟩ | ⟨g', cap', cur, h', _, hg, h1, h2, _⟩
  · simp at h'
  · simp only [Value.slice.injEq, Option.some.injEq, Addr.mk.injEq, and_true, true_and] at h'
    obtain ⟨rfl, rfl⟩ := h'
    exact ⟨h1, h2⟩
theorem OwnZ.mono (h : OwnZ w base g n cap zs) (hb : base' ≤ base) : OwnZ w base' g n cap zs := by
  refine ⟨h.1, h.2.1, ?_⟩
  rcases h.2.2 with h' | ⟨g', cap', cur, h', h0, r⟩
  · exact .inl h'
  · exact .inr ⟨g', cap', cur, h', by omega, r⟩
theorem OwnZ.at (h : OwnZ w base g n cap zs) (i : Nat) (hi : i < zs.length) : w.cell? ⟨g, i, none⟩ = some (.int .i64 zs[i]) := by
  have hl := h.1
  rw [h.2.cellAt i (by omega)]
  simp [intVals, hi]
theorem OwnZ.frozen (h : OwnZ w base g n cap zs) (i : Nat) : w.frozen? ⟨g, i, none⟩ = false := h.2.frozenAt i
theorem OwnZ.sl (h : OwnZ w base g n cap zs) : SlZ w (some ⟨g, 0, none⟩) n zs :=
  ⟨h.1, by have := h.cases; omega, fun _ => ⟨g, 0, rfl, fun i hi => by rw [Nat.zero_add]; exact h.at i hi⟩⟩
theorem OwnZ.grown (h : OwnZ w base g n cap zs) (hg : w.grownBy w' row) (hne : some g ≠ row) : OwnZ w' base g n cap zs := ⟨h.1, h.2.kept hg (.inr hne)⟩
theorem OwnZ.below (h : OwnZ w base g n cap zs) (hb : Below w.heap.size w w') : OwnZ w' base g n cap zs :=
  ⟨h.1, h.2.kept (row := none) ⟨hb.os, hb.tape, hb.output, hb.size, fun k hk _ => hb.block k hk⟩ (.inr (by simp [Value.ownBlock]))⟩
theorem cells_ints (h : CellsZ w b off zs) : ∀ j v, (intVals zs)[j]? = some v → w.cell? ((⟨b, off, none⟩ : Addr).add j) = some v := by
  intro j v hj
  have hjl : j < zs.length := by have := (List.getElem?_eq_some_iff.1 hj).1; rwa [intVals_length] at this
  rw [Addr.add_lit, h j hjl]
  simpa [intVals, hjl] using hj
theorem ownZ_made (w : World) (base : Nat) (hb : base ≤ w.heap.size) : OwnZ (w.alloc (.cells #[] 3)) base w.heap.size 0 0 [] :=
  ⟨rfl, World.ownsRow_made w #[] 0 hb (Nat.zero_le _) rfl⟩
theorem ownZ_val {v' : Value} (hl : zs.length = n) (h0 : ¬ v' = .slice none 0 0) (h : w'.ownsRow base 3 1 v' n (intVals zs)) :
    ∃ g' cap', v' = .slice (some ⟨g', 0, none⟩) n cap' ∧ OwnZ w' base g' n cap' zs := by
  rcases h.2 with ⟨h2, _⟩ | ⟨g', cap', cur, hv, _⟩
  · exact absurd h2 h0
  · subst hv
    exact ⟨g', cap', rfl, hl, h⟩
theorem ownZ_app {v' : Value} {z : Int} (hl : zs.length = n) (h0 : ¬ v' = .slice none 0 0) (h : w'.ownsRow base 3 1 v' (n + 1) (intVals zs ++ intVals [z])) :
    ∃ g' cap', v' = .slice (some ⟨g', 0, none⟩) (n + 1) cap' ∧ OwnZ w' base g' (n + 1) cap' (zs ++ [z]) := by
  rw [← intVals_append] at h
  exact ownZ_val (by simp; omega) h0 h
theorem ownZ_set (h : OwnZ w base g n cap zs) (k : Nat) (z : Int) :
    OwnZ (w.setCell ⟨g, k, none⟩ (.int .i64 z)) base g n cap (zs.set k z) ∧ w.grownBy (w.setCell ⟨g, k, none⟩ (.int .i64 z)) (some g) := by
  have hs := h.2.stored k (.int .i64 z)
  rw [intVals_set] at hs
  exact ⟨⟨by simpa using h.1, hs.1⟩, hs.2⟩
end
theorem one_int_cells (w : World) (z : Int) (t : TypeId) : ∀ j u, (intVals [z])[j]? = some u → (w.alloc (.cells #[.int .i64 z] t)).cell? ((⟨w.heap.size, 0, none⟩ : Addr).add j) = some u := by
  intro j u hj
  match j, hj with
  | 0, hj => simp [intVals] at hj; subst hj; simp [Addr.add]

/-! ### a number put in order -/
theorem putI_at (zs : List Int) (n : Int) (k : Nat) (ha : Asc zs) (hn : n ∉ zs) (hk : k ≤ zs.length) (hd : ∀ x ∈ zs.drop k, n < x) (ht : k = 0 ∨ ∃ h : k - 1 < zs.length, ¬ n < zs[k - 1]) : putI zs n = zs.take k ++ n :: zs.drop k := by
  have htk : ∀ x ∈ zs.take k, x < n := by
    intro x hx
    rcases ht with rfl | ⟨h1, h2⟩
    · simp at hx
    · obtain ⟨i, hi, rfl⟩ := List.getElem_of_mem hx
      have hik : i < k := by simp at hi; omega
      rw [List.getElem_take]
      have hne : zs[k - 1] ≠ n := fun e => hn (e ▸ List.getElem_mem h1)
      by_cases e : i = k - 1
      · subst e; omega
      · have := List.pairwise_iff_getElem.1 ha i (k - 1) (by omega) h1 (by omega)
        omega
  unfold putI
  rw [if_neg hn]
  have e := List.take_append_drop k zs
  have e1 : zs.filter (fun x => decide (x < n)) = zs.take k := by
    conv => lhs; rw [← e, List.filter_append]
    rw [List.filter_eq_self.2 (fun x hx => by simpa using htk x hx), List.filter_eq_nil_iff.2 (fun x hx => by have := hd x hx; simp; omega), List.append_nil]
  have e2 : zs.filter (fun x => decide (n < x)) = zs.drop k := by
    conv => lhs; rw [← e, List.filter_append]
    rw [List.filter_eq_nil_iff.2 (fun x hx => by have := htk x hx; simp; omega), List.filter_eq_self.2 (fun x hx => by simpa using hd x hx), List.nil_append]
  rw [e1, e2]
/-- the row with a place free at k -/
def gap (zs : List Int) (k : Nat) (x : Int) : List Int := zs.take k ++ x :: zs.drop k
theorem gap_length (zs : List Int) (k : Nat) (x : Int) (h : k ≤ zs.length) : (gap zs k x).length = zs.length + 1 := by unfold gap; simp; omega
theorem gap_set (zs : List Int) (k : Nat) (x y : Int) (h : k ≤ zs.length) : (gap zs k x).set k y = gap zs k y := by
  unfold gap
  rw [List.set_append_right _ _ (by simp; omega), List.length_take_of_le h, Nat.sub_self, List.set_cons_zero]
theorem gap_prev (zs : List Int) (k : Nat) (x : Int) (h0 : 0 < k) (h : k ≤ zs.length) : (gap zs k x)[k - 1]? = some (zs[k - 1]'(by omega)) := by
  unfold gap
  rw [List.getElem?_append_left (by simp; omega), List.getElem?_take_of_lt (by omega), List.getElem?_eq_getElem (by omega)]
theorem gap_down (zs : List Int) (k : Nat) (h0 : 0 < k) (h : k ≤ zs.length) : gap zs k (zs[k - 1]'(by omega)) = gap zs (k - 1) (zs[k - 1]'(by omega)) := by
  unfold gap
  obtain ⟨j, rfl⟩ : ∃ j, k = j + 1 := ⟨k - 1, by omega⟩
  simp only [Nat.add_sub_cancel]
  rw [List.take_succ_eq_append_getElem (by omega), List.drop_eq_getElem_cons (i := j) (by omega), List.append_assoc]
  rfl
end Go.Proofs.Ytjodbijcgcjndaa.ords

namespace Go.Proofs.Ytjodbijcgcjndaa.ords
open Go Go.RowKit Go.Proofs.Ytjodbijcgcjndaa.base Go.Proofs.Ytjodbijcgcjndaa.pairs
set_option linter.unusedVariables false
set_option linter.unusedSimpArgs false



theorem putI_length (zs : List Int) (n : Int) : (putI zs n).length ≤ zs.length + 1 := by
  unfold putI
  split
  · omega
  · have h1 : ∀ l : List Int, (l.filter fun x => decide (x < n)).length + (l.filter fun x => decide (n < x)).length ≤ l.length := by
      intro l
      induction l with
      | nil => simp
      | cons x l ih =>
        simp only [List.filter_cons]
        by_cases a : x < n
        · have b : ¬ n < x := by omega
          simp [a, b]; omega
        · by_cases b : n < x
          · simp [a, b]; omega
          · simp [a, b]; omega
    have := h1 zs
    simp only [List.length_append, List.length_cons]
    omega
end Go.Proofs.Ytjodbijcgcjndaa.ords

namespace Go.Proofs.Ytjodbijcgcjndaa.ords
open Go Go.RowKit Go.Proofs.Ytjodbijcgcjndaa.base Go.Proofs.Ytjodbijcgcjndaa.pairs Go.Proofs.Ytjodbijcgcjndaa.putnum Go.Proofs.Ytjodbijcgcjndaa.puttext Go.Proofs.Ytjodbijcgcjndaa.getnum Go.Proofs.Ytjodbijcgcjndaa.gettext
set_option linter.unusedVariables false
set_option linter.unusedSimpArgs false

theorem odBytes_length {o : Od} (h : odOk o = true) : (odBytes o).length ≤ 47 := by
  obtain ⟨_, _, h3, h4⟩ := (odOk_iff o).1 h
  have h5 := keyOk_size h3
  have h6 := textBytes_length o.2.1
  have h7 := textBytes_length o.2.2
  have h8 := numBytes_length o.1
  simp [odBytes]
  omega
theorem odsBytes_length {l : List Od} (h : ∀ o ∈ l, odOk o = true) : (odsBytes l).length ≤ 47 * l.length := by
  induction l with
  | nil => simp [odsBytes]
  | cons o l ih =>
    rw [odsBytes_cons, List.length_append, List.length_cons]
    have := odBytes_length (h o List.mem_cons_self)
    have := ih (fun x hx => h x (List.mem_cons_of_mem _ hx))
    omega
theorem putOps_length (l : List Od) : (putOps l).length ≤ 400 := by
  unfold putOps
  split
  · next h =>
    obtain ⟨⟨h1, _⟩, _, h3⟩ := (opsOk_iff l).1 h
    have := odsBytes_length h1
    have := numBytes_length (l.length : Int)
    rw [List.length_append]; omega
  · simp
theorem shards_length (n : Int) (l : List Od) : (shardsOf n l).length ≤ l.length := by
  have h : ∀ (l : List Od) (u : List Int), (l.foldl (fun u o => putI u (shardOf o.2.1 n)) u).length ≤ u.length + l.length := by
    intro l
    induction l with
    | nil => intro u; simp
    | cons o l ih =>
      intro u
      have := ih (putI u (shardOf o.2.1 n))
      have := putI_length u (shardOf o.2.1 n)
      simp only [List.foldl_cons, List.length_cons]; omega
  simpa [shardsOf] using h l []
set_option maxRecDepth 100000 in
set_option maxHeartbeats 4000000 in
theorem spec_putOps (b off len cap : Nat) (l : List Od) (w : World) (h : SlO w (some ⟨b, off, none⟩) len l) (hks : ∀ p ∈ l, p.2.1.size ≤ 1099511627776) :
    Calls Try.prog 47 #[.slice (some ⟨b, off, none⟩) len cap] w fun e w' =>
      ∃ g' n' cap', e = .returned (.slice (some ⟨g', 0, none⟩) n' cap') ∧ Own w' w.heap.size g' n' cap' (putOps l) ∧ Below w.heap.size w w' := by
  have HOK := Hid.mk' (spec_opsOk b off len cap l w h hks)
  have hl := h.1
  have hm := h.2.1
  unfold maxLen at hm
  subst hl
  cases hok : opsOk l
  · rw [hok] at HOK
    have HP : Hid (putOps l = []) := opsOk_put l hok
    clear hok
    go_enter Try.func47, Try.ntmps47
    go_wp2_with fail
    refine HOK.out.mono ?_
    rintro e w1 ⟨rfl, hb1⟩
    have hO1 := own_made w1 w.heap.size hb1.size
    go_wp2_with fail
    go_ret
    exact ⟨_, _, _, rfl, by rw [HP.out]; exact hO1, hb1.alloc hb1.size _⟩
  · rw [hok] at HOK
    have HP : Hid (putOps l = numBytes (l.length : Int) ++ odsBytes l) := by show _ = _; unfold putOps; rw [if_pos hok]
    obtain ⟨⟨hall, _⟩, hl1, hl8⟩ := (opsOk_iff l).1 hok
    clear hok
    have hnb := numBytes_length (l.length : Int)
    go_enter Try.func47, Try.ntmps47
    go_wp2_with fail
    refine HOK.out.mono ?_
    rintro e w1 ⟨rfl, hb1⟩
    have hO1 := own_made w1 w1.heap.size (Nat.le_refl _)
    have hb1' : Below w.heap.size w (w1.alloc (.cells #[] 5)) := hb1.alloc hb1.size _
    have HPN := Hid.mk' (spec_put w1.heap.size 0 0 0 [] (l.length : Int) _ hO1.sl (WalkArith.wf_i64 (by omega)) (by omega))
    clear HOK hO1
    go_wp2_with fail
    refine HPN.out.mono ?_
    rintro e w2 ⟨g2, n2, cp2, rfl, hO2, hb2⟩
    have hB2 : Below w.heap.size w w2 := hb1'.trans (hb2.mono hb1'.size)
    have hO2' := hO2.mono (base' := w.heap.size) (by have := hb1'.size; omega)
    clear HPN hO2 hb2 hb1 hb1'
    have hn2 := hO2'.1
    go_wp2_with fail
    go_loopw [3, 4] (fun v i wr => ∃ (k g n cp : Nat), k ≤ l.length ∧ n ≤ 5 + 47 * k ∧ i = .int .i64 (k : Int) ∧ v = .slice (some ⟨g, 0, none⟩) n cp ∧ Own wr w.heap.size g n cp (numBytes (l.length : Int) ++ odsBytes (l.take k)) ∧ Below w.heap.size w wr) (fun _ i _ => l.length - (intOf i).toNat)
    case atStart => exact ⟨0, g2, n2, cp2, Nat.zero_le _, by simp at hn2; omega, rfl, rfl, by simpa [odsBytes] using hO2', hB2⟩
    case round =>
      clear hO2' hB2 hn2
      obtain ⟨k, g, n, cp, hk, hn, rfl, rfl, hO, hB⟩ := hrel
      by_cases hlt : k < l.length
      · obtain ⟨c0, c1, c2⟩ := (h.below hB).cells k hlt
        have hki : (k : Int) < (l.length : Int) := by omega
        have hpk := hall _ (List.getElem_mem hlt)
        have HT : Hid (numBytes (l.length : Int) ++ odsBytes (l.take (k + 1)) = (numBytes (l.length : Int) ++ odsBytes (l.take k)) ++ odBytes l[k]) := by show _ = _; rw [odsBytes_take l k hlt, List.append_assoc]
        have hol := odBytes_length hpk
        obtain ⟨hz, _, hkey, hval⟩ := (odOk_iff _).1 hpk
        have hks' := keyOk_size hkey
        have hzf : (Lit.int .i64 l[k].1).wf = true := WalkArith.wf_i64 (by omega)
        have hOd : Own wr.drew w.heap.size g n cp (numBytes (l.length : Int) ++ odsBytes (l.take k)) := hO
        generalize l[k] = p at *
        generalize numBytes (l.length : Int) ++ odsBytes (l.take k) = B at *
        have hnz := numBytes_length p.1
        have htk := textBytes_length p.2.1
        go_wp2_with fail
        go_region_held3 (fun w' => w'.cell? ⟨b, off + k * 3, none⟩ = some (.int .i64 p.1) ∧ w'.cell? ⟨b, off + k * 3 + 1, none⟩ = some (.string p.2.1) ∧ w'.cell? ⟨b, off + k * 3 + 2, none⟩ = some (.string p.2.2)) (first | (exact keepB3 hb7 (by assumption)) | (exact keepB3 hb6 (by assumption)) | (exact keepB3 hb5 (by assumption)) | (go_keep)) (first | (go_at_call 65; have h9 := hb6; refine (puttext.spec_text g6 0 n6 cp6 (B ++ numBytes p.1 ++ textBytes p.2.1) p.2.2 _ hO6.sl (by have := hO6.1; have := hO.1; simp at *; omega) (by omega)).mono ?_; rintro e w7 ⟨g7, n7, cp7, rfl, hO7, hb7⟩) | (go_at_call 65; have h9 := hb5; refine (puttext.spec_text g5 0 n5 cp5 (B ++ numBytes p.1) p.2.1 _ hO5.sl (by have := hO5.1; have := hO.1; simp at *; omega) (by omega)).mono ?_; rintro e w6 ⟨g6, n6, cp6, rfl, hO6, hb6⟩) | (go_at_call 45; refine (spec_put g 0 n cp B p.1 _ hOd.sl hzf (by omega)).mono ?_; rintro e w5 ⟨g5, n5, cp5, rfl, hO5, hb5⟩))
        all_goals
          have hB5 : Below w.heap.size w w5 := hB.drew.trans (hb5.mono hB.size)
          have hB6 : Below w.heap.size w w6 := hB5.trans (hb6.mono hB5.size)
          have hB7 : Below w.heap.size w w7 := hB6.trans (hb7.mono hB6.size)
          have hO7' := hO7.mono (base' := w.heap.size) hB6.size
          have hn7 : n7 ≤ 5 + 47 * (k + 1) := by
            have e1 := hO7.1
            have e2 := hO.1
            simp [odBytes] at e1 hol
            omega
          have e : B ++ numBytes p.1 ++ textBytes p.2.1 ++ textBytes p.2.2 = B ++ odBytes p := by simp [odBytes]
          rw [e] at hO7'
          have HO7 := Hid.mk' hO7'
          clear hb5 hb6 hb7 hO5 hO6 hO7 hO7' hO hOd hB hB5 hB6 c0 c1 c2 e
          go_wp2_with fail
          go_roundw
          case rel => exact ⟨k + 1, g7, n7, cp7, by omega, hn7, by go_num, rfl, by rw [HT.out]; exact HO7.out, hB7⟩
          case measure => simp [intOf]; omega
      · have HE : Hid (l.take k = l) := List.take_of_length_le (by omega)
        go_wp2_with fail
        go_ret
        rw [HE.out, ← HP.out] at hO
        exact ⟨g, n, cp, rfl, hO, hB⟩
end Go.Proofs.Ytjodbijcgcjndaa.ords
