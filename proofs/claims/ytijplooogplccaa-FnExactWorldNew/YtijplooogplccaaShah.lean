/- The laws' marks on a new world. The specification's copy of records. The specification's shard: a copy of it. The laws' own functions on shards: sizes, copies, marks. The laws' helpers for rows of words: alike. -/
import Derived.Test.YtijplooogplccaaShag
import Derived.Test.YtijplooogplccaaShad
import Derived.Test.YtijplooogplccaaShaf
import Derived.Test.YtijplooogplccaaShae
import Derived.Test.YtijplooogplccaaShac
namespace Go.Proofs.Ytijplooogplccaa.wos
open Go Go.RowKit Go.Proofs.Ytijplooogplccaa.base Go.Proofs.Ytijplooogplccaa.pairs Go.Proofs.Ytijplooogplccaa.ords Go.Proofs.Ytijplooogplccaa.lay
set_option linter.unusedVariables false
set_option linter.unusedSimpArgs false

set_option maxRecDepth 100000 in
theorem nil_markRecS (K : Int) (w : World) : Calls Try.prog 59 #[.slice none 0 0, .int .i64 K] w fun e w' => e = .returned (.int .i64 K) ∧ w' = w := by
  go_enter Try.func59, Try.ntmps59
  go_wp2_with fail
  go_loopw [5, 1] (fun iv kv wr => iv = .int .i64 0 ∧ kv = .int .i64 K ∧ w = wr) (fun _ _ _ => 0)
  case atStart => exact ⟨rfl, rfl, rfl⟩
  case round =>
    obtain ⟨rfl, rfl, rfl⟩ := hrel
    go_wp2_with fail
    go_ret
    exact ⟨rfl, rfl⟩
set_option maxRecDepth 100000 in
theorem nil_heldRecS (K : Int) (w : World) : Calls Try.prog 64 #[.slice none 0 0, .int .i64 K] w fun e w' => e = .returned (.int .i64 K) ∧ w' = w := by
  go_enter Try.func64, Try.ntmps64
  go_wp2_with fail
  go_loopw [5, 1] (fun iv kv wr => iv = .int .i64 0 ∧ kv = .int .i64 K ∧ w = wr) (fun _ _ _ => 0)
  case atStart => exact ⟨rfl, rfl, rfl⟩
  case round =>
    obtain ⟨rfl, rfl, rfl⟩ := hrel
    go_wp2_with fail
    go_ret
    exact ⟨rfl, rfl⟩
set_option maxRecDepth 100000 in
theorem nil_markPairS (K : Int) (w : World) : Calls Try.prog 60 #[.slice none 0 0, .int .i64 K] w fun e w' => e = .returned (.int .i64 K) ∧ w' = w := by
  go_enter Try.func60, Try.ntmps60
  go_wp2_with fail
  go_loopw [5, 1] (fun iv kv wr => iv = .int .i64 0 ∧ kv = .int .i64 K ∧ w = wr) (fun _ _ _ => 0)
  case atStart => exact ⟨rfl, rfl, rfl⟩
  case round =>
    obtain ⟨rfl, rfl, rfl⟩ := hrel
    go_wp2_with fail
    go_ret
    exact ⟨rfl, rfl⟩
set_option maxRecDepth 100000 in
theorem nil_heldPairS (K : Int) (w : World) : Calls Try.prog 65 #[.slice none 0 0, .int .i64 K] w fun e w' => e = .returned (.int .i64 K) ∧ w' = w := by
  go_enter Try.func65, Try.ntmps65
  go_wp2_with fail
  go_loopw [5, 1] (fun iv kv wr => iv = .int .i64 0 ∧ kv = .int .i64 K ∧ w = wr) (fun _ _ _ => 0)
  case atStart => exact ⟨rfl, rfl, rfl⟩
  case round =>
    obtain ⟨rfl, rfl, rfl⟩ := hrel
    go_wp2_with fail
    go_ret
    exact ⟨rfl, rfl⟩
set_option maxRecDepth 100000 in
theorem nil_markWordS (K : Int) (w : World) : Calls Try.prog 29 #[.slice none 0 0, .int .i64 K] w fun e w' => e = .returned (.int .i64 K) ∧ w' = w := by
  go_enter Try.func29, Try.ntmps29
  go_wp2_with fail
  go_loopw [5, 1] (fun iv kv wr => iv = .int .i64 0 ∧ kv = .int .i64 K ∧ w = wr) (fun _ _ _ => 0)
  case atStart => exact ⟨rfl, rfl, rfl⟩
  case round =>
    obtain ⟨rfl, rfl, rfl⟩ := hrel
    go_wp2_with fail
    go_ret
    exact ⟨rfl, rfl⟩
set_option maxRecDepth 100000 in
theorem nil_heldWordS (K : Int) (w : World) : Calls Try.prog 33 #[.slice none 0 0, .int .i64 K] w fun e w' => e = .returned (.int .i64 K) ∧ w' = w := by
  go_enter Try.func33, Try.ntmps33
  go_wp2_with fail
  go_loopw [5, 1] (fun iv kv wr => iv = .int .i64 0 ∧ kv = .int .i64 K ∧ w = wr) (fun _ _ _ => 0)
  case atStart => exact ⟨rfl, rfl, rfl⟩
  case round =>
    obtain ⟨rfl, rfl, rfl⟩ := hrel
    go_wp2_with fail
    go_ret
    exact ⟨rfl, rfl⟩
set_option maxRecDepth 100000 in
theorem nil_markOrderS (K : Int) (w : World) : Calls Try.prog 30 #[.slice none 0 0, .int .i64 K] w fun e w' => e = .returned (.int .i64 K) ∧ w' = w := by
  go_enter Try.func30, Try.ntmps30
  go_wp2_with fail
  go_loopw [5, 1] (fun iv kv wr => iv = .int .i64 0 ∧ kv = .int .i64 K ∧ w = wr) (fun _ _ _ => 0)
  case atStart => exact ⟨rfl, rfl, rfl⟩
  case round =>
    obtain ⟨rfl, rfl, rfl⟩ := hrel
    go_wp2_with fail
    go_ret
    exact ⟨rfl, rfl⟩
set_option maxRecDepth 100000 in
theorem nil_heldOrderS (K : Int) (w : World) : Calls Try.prog 34 #[.slice none 0 0, .int .i64 K] w fun e w' => e = .returned (.int .i64 K) ∧ w' = w := by
  go_enter Try.func34, Try.ntmps34
  go_wp2_with fail
  go_loopw [5, 1] (fun iv kv wr => iv = .int .i64 0 ∧ kv = .int .i64 K ∧ w = wr) (fun _ _ _ => 0)
  case atStart => exact ⟨rfl, rfl, rfl⟩
  case round =>
    obtain ⟨rfl, rfl, rfl⟩ := hrel
    go_wp2_with fail
    go_ret
    exact ⟨rfl, rfl⟩
set_option maxRecDepth 100000 in
theorem nil_markJobS (K : Int) (w : World) : Calls Try.prog 57 #[.slice none 0 0, .int .i64 K] w fun e w' => e = .returned (.int .i64 K) ∧ w' = w := by
  go_enter Try.func57, Try.ntmps57
  go_wp2_with fail
  go_loopw [5, 1] (fun iv kv wr => iv = .int .i64 0 ∧ kv = .int .i64 K ∧ w = wr) (fun _ _ _ => 0)
  case atStart => exact ⟨rfl, rfl, rfl⟩
  case round =>
    obtain ⟨rfl, rfl, rfl⟩ := hrel
    go_wp2_with fail
    go_ret
    exact ⟨rfl, rfl⟩
set_option maxRecDepth 100000 in
theorem nil_heldJobS (K : Int) (w : World) : Calls Try.prog 62 #[.slice none 0 0, .int .i64 K] w fun e w' => e = .returned (.int .i64 K) ∧ w' = w := by
  go_enter Try.func62, Try.ntmps62
  go_wp2_with fail
  go_loopw [5, 1] (fun iv kv wr => iv = .int .i64 0 ∧ kv = .int .i64 K ∧ w = wr) (fun _ _ _ => 0)
  case atStart => exact ⟨rfl, rfl, rfl⟩
  case round =>
    obtain ⟨rfl, rfl, rfl⟩ := hrel
    go_wp2_with fail
    go_ret
    exact ⟨rfl, rfl⟩
set_option maxRecDepth 100000 in
theorem nil_markChoiceS (K : Int) (w : World) : Calls Try.prog 58 #[.slice none 0 0, .int .i64 K] w fun e w' => e = .returned (.int .i64 K) ∧ w' = w := by
  go_enter Try.func58, Try.ntmps58
  go_wp2_with fail
  go_loopw [5, 1] (fun iv kv wr => iv = .int .i64 0 ∧ kv = .int .i64 K ∧ w = wr) (fun _ _ _ => 0)
  case atStart => exact ⟨rfl, rfl, rfl⟩
  case round =>
    obtain ⟨rfl, rfl, rfl⟩ := hrel
    go_wp2_with fail
    go_ret
    exact ⟨rfl, rfl⟩
set_option maxRecDepth 100000 in
theorem nil_heldChoiceS (K : Int) (w : World) : Calls Try.prog 63 #[.slice none 0 0, .int .i64 K] w fun e w' => e = .returned (.int .i64 K) ∧ w' = w := by
  go_enter Try.func63, Try.ntmps63
  go_wp2_with fail
  go_loopw [5, 1] (fun iv kv wr => iv = .int .i64 0 ∧ kv = .int .i64 K ∧ w = wr) (fun _ _ _ => 0)
  case atStart => exact ⟨rfl, rfl, rfl⟩
  case round =>
    obtain ⟨rfl, rfl, rfl⟩ := hrel
    go_wp2_with fail
    go_ret
    exact ⟨rfl, rfl⟩
set_option maxRecDepth 100000 in
theorem new_markCoord (a b c d K : Int) (w : World) : Calls Try.prog 27 #[.agg #[.int .i64 a, .int .i64 b, .int .i64 c, .slice none 0 0, .slice none 0 0, .int .i64 d], .int .i64 K] w fun e w' => e = .returned (.int .i64 K) ∧ Below w.heap.size w w' := by
  go_enter Try.func27, Try.ntmps27
  go_wp2_with fail
  refine (nil_markJobS K _).mono ?_
  rintro e w1 ⟨rfl, rfl⟩
  go_wp2_with fail
  refine (nil_markChoiceS K _).mono ?_
  rintro e w1 ⟨rfl, rfl⟩
  go_wp2_with fail
  go_ret
  exact ⟨rfl, below_make⟩
set_option maxRecDepth 100000 in
theorem new_heldCoord (a b c d K : Int) (w : World) (hK : ¬ K < 0) : Calls Try.prog 31 #[.agg #[.int .i64 a, .int .i64 b, .int .i64 c, .slice none 0 0, .slice none 0 0, .int .i64 d], .int .i64 K] w fun e w' => e = .returned (.int .i64 K) ∧ Below w.heap.size w w' := by
  go_enter Try.func31, Try.ntmps31
  go_wp2_with fail
  refine (nil_heldJobS K _).mono ?_
  rintro e w1 ⟨rfl, rfl⟩
  go_wp2_with fail
  refine (nil_heldChoiceS K _).mono ?_
  rintro e w1 ⟨rfl, rfl⟩
  go_wp2_with fail
  go_ret
  exact ⟨rfl, below_make⟩
theorem box_get {X : Nat} {T : TypeId} {vs : List Value} {w : World} (h : BoxIn X T [] vs [] w) (o : Nat) : w.cell? ⟨X, o, none⟩ = vs[o]? := by
  unfold BoxIn at h
  simp [World.cell?, h]
def RowN (w : World) (g n : Nat) (f : Nat → Int × Int) : Prop := (∃ vs, BoxIn g 56 [] vs [] w) ∧ ∀ i, i < n → w.cell? ⟨g, i * 5, none⟩ = some (.int .i64 (f i).1) ∧ w.cell? ⟨g, i * 5 + 1, none⟩ = some (.slice none 0 0) ∧ w.cell? ⟨g, i * 5 + 2, none⟩ = some (.int .i64 (f i).2) ∧ w.cell? ⟨g, i * 5 + 3, none⟩ = some (.slice none 0 0) ∧ w.cell? ⟨g, i * 5 + 4, none⟩ = some (.slice none 0 0)
section
variable {w w' : World} {g n : Nat} {f f' : Nat → Int × Int}
theorem RowN.keep (h : RowN w g n f) (hk : w'.heap[g]? = w.heap[g]?) : RowN w' g n f := by
  obtain ⟨⟨vs, hb⟩, hc⟩ := h
  have hb' := hb.keep hk
  refine ⟨⟨vs, hb'⟩, fun i hi => ?_⟩
  have := hc i hi
  simp only [box_get hb] at this
  simp only [box_get hb']
  exact this
theorem RowN.lt (h : RowN w g n f) : g < w.heap.size := by obtain ⟨⟨vs, hb⟩, _⟩ := h; exact hb.lt
theorem RowN.below (h : RowN w g n f) (hb : Below w.heap.size w w') : RowN w' g n f := h.keep (hb.block g h.lt)
theorem RowN.fz (h : RowN w g n f) (j : Nat) : w.frozen? ⟨g, j, none⟩ = false := by obtain ⟨⟨vs, hb⟩, _⟩ := h; exact hb.fz j
theorem RowN.congr (h : RowN w g n f) (e : ∀ i, i < n → f i = f' i) : RowN w g n f' := ⟨h.1, fun i hi => by rw [← e i hi]; exact h.2 i hi⟩
theorem RowN.set0 (h : RowN w g n f) {i : Nat} (hi : i < n) (z : Int) : RowN (w.setCell ⟨g, i * 5, none⟩ (.int .i64 z)) g n (fun j => if j = i then (z, (f j).2) else f j) ∧ w.grownBy (w.setCell ⟨g, i * 5, none⟩ (.int .i64 z)) (some g) := by
  obtain ⟨⟨vs, hb⟩, hc⟩ := h
  simp only [box_get hb] at hc
  have hlt : i * 5 < vs.length := (List.getElem?_eq_some_iff.1 (hc i hi).1).1
  have hs := hb.set (i * 5) hlt (.int .i64 z)
  simp only [List.length_nil, Nat.zero_add] at hs
  refine ⟨⟨⟨_, hs.1⟩, fun j hj => ?_⟩, hs.2⟩
  simp only [box_get hs.1]
  obtain ⟨h0, h1, h2, h3, h4⟩ := hc j hj
  by_cases e : j = i
  · subst e
    rw [if_pos rfl]
    exact ⟨by simp [hlt], by rw [List.getElem?_set_ne (by omega)]; exact h1, by rw [List.getElem?_set_ne (by omega)]; exact h2, by rw [List.getElem?_set_ne (by omega)]; exact h3, by rw [List.getElem?_set_ne (by omega)]; exact h4⟩
  · rw [if_neg e]
    exact ⟨by rw [List.getElem?_set_ne (by omega)]; exact h0, by rw [List.getElem?_set_ne (by omega)]; exact h1, by rw [List.getElem?_set_ne (by omega)]; exact h2, by rw [List.getElem?_set_ne (by omega)]; exact h3, by rw [List.getElem?_set_ne (by omega)]; exact h4⟩
theorem RowN.set2 (h : RowN w g n f) {i : Nat} (hi : i < n) (z : Int) : RowN (w.setCell ⟨g, i * 5 + 2, none⟩ (.int .i64 z)) g n (fun j => if j = i then ((f j).1, z) else f j) ∧ w.grownBy (w.setCell ⟨g, i * 5 + 2, none⟩ (.int .i64 z)) (some g) := by
  obtain ⟨⟨vs, hb⟩, hc⟩ := h
  simp only [box_get hb] at hc
  have hlt : i * 5 + 2 < vs.length := (List.getElem?_eq_some_iff.1 (hc i hi).2.2.1).1
  have hs := hb.set (i * 5 + 2) hlt (.int .i64 z)
  simp only [List.length_nil, Nat.zero_add] at hs
  refine ⟨⟨⟨_, hs.1⟩, fun j hj => ?_⟩, hs.2⟩
  simp only [box_get hs.1]
  obtain ⟨h0, h1, h2, h3, h4⟩ := hc j hj
  by_cases e : j = i
  · subst e
    rw [if_pos rfl]
    exact ⟨by rw [List.getElem?_set_ne (by omega)]; exact h0, by rw [List.getElem?_set_ne (by omega)]; exact h1, by simp [hlt], by rw [List.getElem?_set_ne (by omega)]; exact h3, by rw [List.getElem?_set_ne (by omega)]; exact h4⟩
  · rw [if_neg e]
    exact ⟨by rw [List.getElem?_set_ne (by omega)]; exact h0, by rw [List.getElem?_set_ne (by omega)]; exact h1, by rw [List.getElem?_set_ne (by omega)]; exact h2, by rw [List.getElem?_set_ne (by omega)]; exact h3, by rw [List.getElem?_set_ne (by omega)]; exact h4⟩
end
theorem row_own {w : World} {g k sc : Nat} (h : OwnG 56 shardR w (.slice (some ⟨g, 0, none⟩) k sc) (shsN k) (partsN k)) : RowN w g k (fun i => ((i : Int), 0)) := by
  refine ⟨?_, fun i hi => ?_⟩
  · have hr := h.row
    rw [shsN_len] at hr
    obtain ⟨_, ⟨e, _⟩ | ⟨g', cap, cur, e, _, h2, _⟩⟩ := hr
    · cases e
    · cases e
      exact ⟨cur.toList, by unfold BoxIn; simpa using h2⟩
  · have hc := h.cells i (by rw [shsN_len]; exact hi)
    have e : (partsN k)[i]'(by have := h.len; rw [shsN_len] at this; omega) = (usN (i : Int) 0, []) := by simp [partsN]
    rw [e] at hc
    exact ⟨hc 0 _ rfl, hc 1 _ rfl, hc 2 _ rfl, hc 3 _ rfl, hc 4 _ rfl⟩
def RowE (w : World) (sa : Option Addr) (n : Nat) (f : Nat → Int × Int) : Prop := n = 0 ∨ ∃ g, sa = some ⟨g, 0, none⟩ ∧ RowN w g n f
theorem RowE.below {w w' : World} {sa : Option Addr} {n : Nat} {f : Nat → Int × Int} (h : RowE w sa n f) (hb : Below w.heap.size w w') : RowE w' sa n f := by
  rcases h with h | ⟨g, e, h⟩
  · exact .inl h
  · exact .inr ⟨g, e, h.below hb⟩
theorem rowE_own {w : World} {sa : Option Addr} {k sc : Nat} (h : OwnG 56 shardR w (.slice sa k sc) (shsN k) (partsN k)) : RowE w sa k (fun i => ((i : Int), 0)) := by
  have hs := h.shape
  rw [shsN_len] at hs
  rcases hs with ⟨e, _⟩ | ⟨g, cap, e, _⟩
  · cases e; exact .inl rfl
  · cases e; exact .inr ⟨g, rfl, row_own h⟩
def mkF (K : Nat) (i : Nat) : Int × Int := (((K + 2 * i : Nat) : Int), ((K + 2 * i + 1 : Nat) : Int))
def mkT (K : Nat) (k : Nat) (f : Nat → Int × Int) (i : Nat) : Int × Int := if i < k then mkF K i else f i
set_option maxRecDepth 100000 in
set_option maxHeartbeats 2000000 in
theorem new_markShardS (sa : Option Addr) (n sc K : Nat) (f : Nat → Int × Int) (w : World) (h : RowE w sa n f) (hn : n ≤ 8) (hK : K ≤ 8) :
    Calls Try.prog 28 #[.slice sa n sc, .int .i64 (K : Int)] w fun e w' => e = .returned (.int .i64 ((K + 2 * n : Nat) : Int)) ∧ RowE w' sa n (mkF K) ∧ lay.Frame ((Value.slice sa n sc).ownBlock.toList) w w' := by
  rcases h with h | ⟨g, rfl, h⟩
  · subst h
    go_enter Try.func28, Try.ntmps28
    go_wp2_with fail
    go_loopw [5, 1] (fun iv kv wr => iv = .int .i64 0 ∧ kv = .int .i64 (K : Int) ∧ w = wr) (fun _ _ _ => 0)
    case atStart => exact ⟨rfl, rfl, rfl⟩
    case round =>
      obtain ⟨rfl, rfl, rfl⟩ := hrel
      go_wp2_with fail
      go_ret
      exact ⟨rfl, .inl rfl, lay.Frame.refl _ _⟩
  · go_enter Try.func28, Try.ntmps28
    go_wp2_with fail
    go_loopw [5, 1] (fun iv kv wr => ∃ k : Nat, k ≤ n ∧ iv = .int .i64 (k : Int) ∧ kv = .int .i64 ((K + 2 * k : Nat) : Int) ∧ RowN wr g n (mkT K k f) ∧ lay.Frame [g] w wr) (fun iv _ _ => n - (intOf iv).toNat)
    case atStart => exact ⟨0, Nat.zero_le _, rfl, rfl, h.congr (fun i _ => by unfold mkT; rw [if_neg (by omega)]), lay.Frame.refl _ _⟩
    case round =>
      clear h
      obtain ⟨k, hk, rfl, rfl, h, hF⟩ := hrel
      by_cases hlt : k < n
      · have hki : (k : Int) < (n : Int) := by omega
        obtain ⟨M, hM⟩ : ∃ M : Nat, K + 2 * k = M := ⟨_, rfl⟩
        obtain ⟨h1, g1⟩ := h.set0 hlt (M : Int)
        obtain ⟨h2, g2⟩ := h1.set2 hlt ((M : Int) + 1)
        obtain ⟨c0, c1, c2, c3, c4⟩ := h.2 k hlt
        obtain ⟨d0, d1, d2, d3, d4⟩ := h1.2 k hlt
        obtain ⟨e0, e1, e2, e3, e4⟩ := h2.2 k hlt
        have f0 := h.fz (k * 5)
        have f2 := h1.fz (k * 5 + 2)
        have HF2 := Hid.mk' ((hF.grown g1 (fun b e => by cases e; exact .inl (by simp))).grown g2 (fun b e => by cases e; exact .inl (by simp)))
        have HN2 : Hid (RowN _ g n (mkT K (k + 1) f)) := h2.congr (fun i hi => by
          unfold mkT mkF
          by_cases e : i = k
          · subst e
            simp only [if_pos rfl, if_true]
            rw [if_pos (by omega)]
            ext <;> simp <;> omega
          · simp only [if_neg e]
            by_cases e2 : i < k
            · rw [if_pos e2, if_pos (by omega)]
            · rw [if_neg e2, if_neg (by omega)])
        have HK2 : Hid ((M : Int) + 1 + 1 = ((K + 2 * (k + 1) : Nat) : Int)) := by show _ = _; omega
        have hMb : M ≤ 1000 := by omega
        simp only [hM]
        obtain ⟨t, ht⟩ : ∃ t, (mkT K k f k).1 = t := ⟨_, rfl⟩
        obtain ⟨t2, ht2⟩ : ∃ t, (mkT K k f k).2 = t := ⟨_, rfl⟩
        rw [ht] at c0
        simp only [if_pos rfl, if_true, ht2] at c2 d0 d2
        clear h h1 h2 g1 g2 hM ht ht2 hF
        go_wp2_with fail
        refine (nil_markRecS _ _).mono ?_
        rintro e w1 ⟨rfl, hw1⟩
        replace hw1 := hw1.symm
        subst hw1
        go_wp2_with fail
        refine (nil_markPairS _ _).mono ?_
        rintro e w1 ⟨rfl, hw1⟩
        replace hw1 := hw1.symm
        subst hw1
        go_wp2_with fail
        refine (nil_markRecS _ _).mono ?_
        rintro e w1 ⟨rfl, hw1⟩
        replace hw1 := hw1.symm
        subst hw1
        go_wp2_with fail
        go_roundw
        case rel => exact ⟨k + 1, by omega, by go_num, congrArg (Value.int .i64) HK2.out, HN2.out, HF2.out⟩
        case measure => simp [intOf]; omega
      · have hki : ¬ (k : Int) < (n : Int) := by omega
        obtain rfl : k = n := by omega
        have hR : RowN wr g k (mkF K) := h.congr (fun i hi => by unfold mkT; rw [if_pos hi])
        go_wp2_with fail
        go_ret
        exact ⟨rfl, .inr ⟨g, rfl, hR⟩, hF⟩
set_option maxRecDepth 100000 in
set_option maxHeartbeats 2000000 in
theorem new_heldShardS (sa : Option Addr) (n sc K : Nat) (w : World) (h : RowE w sa n (mkF K)) (hn : n ≤ 8) (hK : K ≤ 8) :
    Calls Try.prog 32 #[.slice sa n sc, .int .i64 (K : Int)] w fun e w' => e = .returned (.int .i64 ((K + 2 * n : Nat) : Int)) ∧ w' = w := by
  rcases h with h | ⟨g, rfl, h⟩
  · subst h
    go_enter Try.func32, Try.ntmps32
    go_wp2_with fail
    go_loopw [5, 1] (fun iv kv wr => iv = .int .i64 0 ∧ kv = .int .i64 (K : Int) ∧ w = wr) (fun _ _ _ => 0)
    case atStart => exact ⟨rfl, rfl, rfl⟩
    case round =>
      obtain ⟨rfl, rfl, rfl⟩ := hrel
      go_wp2_with fail
      go_ret
      exact ⟨rfl, rfl⟩
  · go_enter Try.func32, Try.ntmps32
    go_wp2_with fail
    go_loopw [5, 1] (fun iv kv wr => ∃ k : Nat, k ≤ n ∧ iv = .int .i64 (k : Int) ∧ kv = .int .i64 ((K + 2 * k : Nat) : Int) ∧ w = wr) (fun iv _ _ => n - (intOf iv).toNat)
    case atStart => exact ⟨0, Nat.zero_le _, rfl, rfl, rfl⟩
    case round =>
      obtain ⟨k, hk, rfl, rfl, rfl⟩ := hrel
      by_cases hlt : k < n
      · have hki : (k : Int) < (n : Int) := by omega
        obtain ⟨c0, c1, c2, c3, c4⟩ := h.2 k hlt
        unfold mkF at c0 c2
        obtain ⟨M, hM⟩ : ∃ M : Nat, K + 2 * k = M := ⟨_, rfl⟩
        have e1 : ((M + 1 : Nat) : Int) = (M : Int) + 1 := by omega
        simp only [hM, e1] at c0 c2 ⊢
        have HK2 : Hid ((M : Int) + 1 + 1 = ((K + 2 * (k + 1) : Nat) : Int)) := by show _ = _; omega
        have hMb : M ≤ 1000 := by omega
        have n0 : ((M : Int) != (M : Int)) = false := by simp
        have n1 : ((M : Int) + 1 != (M : Int) + 1) = false := by simp
        have m1 : ¬ (M : Int) + 1 < 0 := by omega
        have m2 : ¬ (M : Int) + 1 + 1 < 0 := by omega
        clear h hM e1
        go_wp2_with fail
        refine (nil_heldRecS _ _).mono ?_
        rintro e w1 ⟨rfl, hw1⟩
        replace hw1 := hw1.symm
        subst hw1
        go_wp2_with fail
        refine (nil_heldPairS _ _).mono ?_
        rintro e w1 ⟨rfl, hw1⟩
        replace hw1 := hw1.symm
        subst hw1
        go_wp2_with fail
        refine (nil_heldRecS _ _).mono ?_
        rintro e w1 ⟨rfl, hw1⟩
        replace hw1 := hw1.symm
        subst hw1
        go_wp2_with fail
        go_roundw
        case rel => exact ⟨k + 1, by omega, by go_num, congrArg (Value.int .i64) HK2.out, by first | rfl | trivial⟩
        case measure => simp [intOf]; omega
      · have hki : ¬ (k : Int) < (n : Int) := by omega
        obtain rfl : k = n := by omega
        go_wp2_with fail
        go_ret
        exact ⟨rfl, rfl⟩
set_option maxRecDepth 100000 in
set_option maxHeartbeats 2000000 in
theorem new_markWorld (a b c d : Int) (sa : Option Addr) (n sc : Nat) (f : Nat → Int × Int) (w : World) (h : RowE w sa n f) (hn : n ≤ 8) (hlt : ∀ k ∈ (Value.slice sa n sc).ownBlock.toList, k < w.heap.size) :
    Calls Try.prog 9 #[.agg #[.int .i64 a, .int .i64 b, .int .i64 c, .slice none 0 0, .slice none 0 0, .int .i64 d, .slice sa n sc, .slice none 0 0, .slice none 0 0, .slice none 0 0], .int .i64 1] w fun e w' => e = .returned (.int .i64 ((1 + 2 * n : Nat) : Int)) ∧ RowE w' sa n (mkF 1) ∧ lay.Frame ((Value.slice sa n sc).ownBlock.toList) w w' := by
  obtain ⟨W, hW⟩ : ∃ W, w.alloc (.cells #[.int .i64 a, .int .i64 b, .int .i64 c, .slice none 0 0, .slice none 0 0, .int .i64 d, .slice sa n sc, .slice none 0 0, .slice none 0 0, .slice none 0 0] 30) = W := ⟨_, rfl⟩
  have hB : Below w.heap.size w W := by rw [← hW]; exact below_make
  have hX : BoxIn w.heap.size 30 [] [.int .i64 a, .int .i64 b, .int .i64 c, .slice none 0 0, .slice none 0 0, .int .i64 d, .slice sa n sc, .slice none 0 0, .slice none 0 0, .slice none 0 0] [] W := by rw [← hW]; exact boxIn_new w _ _
  have HC := Hid.mk' (new_markCoord a b c d 1 W)
  have HS := Hid.mk' (fun wx (hx : Below W.heap.size W wx) => new_markShardS sa n sc 1 f wx ((h.below hB).below hx) hn (by omega))
  have HW := Hid.mk' hW
  obtain ⟨a0, a1, a2, a3, a4, a5, a6, a7, a8, a9⟩ := cells10 hX
  rw [← hW] at a0 a1 a2 a3 a4 a5 a6 a7 a8 a9
  clear hW h
  go_enter Try.func9, Try.ntmps9
  go_wp2_with fail
  rw [HW.out]
  refine HC.out.mono ?_
  rintro e w1 ⟨rfl, hb1⟩
  clear a0 a1 a2 a3 a4 a5 a6 a7 a8 a9 HC HW
  have hX1 := hX.below hb1
  obtain ⟨a0, a1, a2, a3, a4, a5, a6, a7, a8, a9⟩ := cells10 hX1
  have HS1 := Hid.mk' (HS.out w1 hb1)
  clear HS
  go_wp2_with fail
  refine HS1.out.mono ?_
  rintro e w2 ⟨rfl, hR2, hF2⟩
  have hX2 := hX1.frame hF2 (fun e => by have := hlt _ e; omega)
  have HFR := Hid.mk' ((lay.Frame.of_below (G := (Value.slice sa n sc).ownBlock.toList) (hB.trans (hb1.mono hB.size))).trans hF2 (Fresh.refl _ _))
  clear a0 a1 a2 a3 a4 a5 a6 a7 a8 a9 HS1 hX1 hF2
  obtain ⟨a0, a1, a2, a3, a4, a5, a6, a7, a8, a9⟩ := cells10 hX2
  generalize hKE : ((1 + 2 * n : Nat) : Int) = K at *
  have HKE := Hid.mk' hKE
  clear hKE
  go_wp2_with fail
  refine (nil_markWordS _ _).mono ?_
  rintro e w3 ⟨rfl, hw3⟩
  replace hw3 := hw3.symm
  subst hw3
  go_wp2_with fail
  refine (nil_markWordS _ _).mono ?_
  rintro e w3 ⟨rfl, hw3⟩
  replace hw3 := hw3.symm
  subst hw3
  go_wp2_with fail
  refine (nil_markOrderS _ _).mono ?_
  rintro e w3 ⟨rfl, hw3⟩
  replace hw3 := hw3.symm
  subst hw3
  go_wp2_with fail
  go_ret
  exact ⟨by rw [HKE.out]; rfl, hR2, HFR.out⟩
set_option maxRecDepth 100000 in
set_option maxHeartbeats 2000000 in
theorem new_heldWorld (a b c d : Int) (sa : Option Addr) (n sc : Nat) (w : World) (h : RowE w sa n (mkF 1)) (hn : n ≤ 8) :
    Calls Try.prog 10 #[.agg #[.int .i64 a, .int .i64 b, .int .i64 c, .slice none 0 0, .slice none 0 0, .int .i64 d, .slice sa n sc, .slice none 0 0, .slice none 0 0, .slice none 0 0], .int .i64 1] w fun e w' => e = .returned (.int .i64 ((1 + 2 * n : Nat) : Int)) ∧ Below w.heap.size w w' := by
  obtain ⟨W, hW⟩ : ∃ W, w.alloc (.cells #[.int .i64 a, .int .i64 b, .int .i64 c, .slice none 0 0, .slice none 0 0, .int .i64 d, .slice sa n sc, .slice none 0 0, .slice none 0 0, .slice none 0 0] 30) = W := ⟨_, rfl⟩
  have hB : Below w.heap.size w W := by rw [← hW]; exact below_make
  have hX : BoxIn w.heap.size 30 [] [.int .i64 a, .int .i64 b, .int .i64 c, .slice none 0 0, .slice none 0 0, .int .i64 d, .slice sa n sc, .slice none 0 0, .slice none 0 0, .slice none 0 0] [] W := by rw [← hW]; exact boxIn_new w _ _
  have HC := Hid.mk' (new_heldCoord a b c d 1 W (by omega))
  have HS := Hid.mk' (fun wx (hx : Below W.heap.size W wx) => new_heldShardS sa n sc 1 wx ((h.below hB).below hx) hn (by omega))
  have HW := Hid.mk' hW
  obtain ⟨a0, a1, a2, a3, a4, a5, a6, a7, a8, a9⟩ := cells10 hX
  rw [← hW] at a0 a1 a2 a3 a4 a5 a6 a7 a8 a9
  have hKn : ¬ ((1 + 2 * n : Nat) : Int) < 0 := by omega
  clear hW h
  go_enter Try.func10, Try.ntmps10
  go_wp2_with fail
  rw [HW.out]
  refine HC.out.mono ?_
  rintro e w1 ⟨rfl, hb1⟩
  clear a0 a1 a2 a3 a4 a5 a6 a7 a8 a9 HC HW
  obtain ⟨a0, a1, a2, a3, a4, a5, a6, a7, a8, a9⟩ := cells10 (hX.below hb1)
  have HS1 := Hid.mk' (HS.out w1 hb1)
  have hBz := hB.trans (hb1.mono hB.size)
  clear HS
  generalize hKE : ((1 + 2 * n : Nat) : Int) = K at *
  have HKE := Hid.mk' hKE
  clear hKE
  go_wp2_with fail
  refine HS1.out.mono ?_
  rintro e w3 ⟨rfl, hw3⟩
  replace hw3 := hw3.symm
  subst hw3
  go_wp2_with fail
  refine (nil_heldWordS _ _).mono ?_
  rintro e w3 ⟨rfl, hw3⟩
  replace hw3 := hw3.symm
  subst hw3
  go_wp2_with fail
  refine (nil_heldWordS _ _).mono ?_
  rintro e w3 ⟨rfl, hw3⟩
  replace hw3 := hw3.symm
  subst hw3
  go_wp2_with fail
  refine (nil_heldOrderS _ _).mono ?_
  rintro e w3 ⟨rfl, hw3⟩
  replace hw3 := hw3.symm
  subst hw3
  go_wp2_with fail
  go_ret
  exact ⟨by rw [HKE.out]; rfl, hBz⟩
end Go.Proofs.Ytijplooogplccaa.wos

namespace Go.Proofs.Ytijplooogplccaa.recs
open Go Go.RowKit Go.Proofs.Ytijplooogplccaa.base Go.Proofs.Ytijplooogplccaa.pairs Go.Proofs.Ytijplooogplccaa.ords
set_option linter.unusedVariables false
set_option linter.unusedSimpArgs false

end Go.Proofs.Ytijplooogplccaa.recs

namespace Go.Proofs.Ytijplooogplccaa.lay
open Go Go.RowKit Go.Proofs.Ytijplooogplccaa.base Go.Proofs.Ytijplooogplccaa.pairs Go.Proofs.Ytijplooogplccaa.ords Go.Proofs.Ytijplooogplccaa.recs
end Go.Proofs.Ytijplooogplccaa.lay
namespace Go.Proofs.Ytijplooogplccaa.recs
open Go Go.RowKit Go.Proofs.Ytijplooogplccaa.base Go.Proofs.Ytijplooogplccaa.pairs Go.Proofs.Ytijplooogplccaa.ords Go.Proofs.Ytijplooogplccaa.helps Go.Proofs.Ytijplooogplccaa.help Go.Proofs.Ytijplooogplccaa.lay
set_option linter.unusedVariables false
set_option linter.unusedSimpArgs false

end Go.Proofs.Ytijplooogplccaa.recs

namespace Go.Proofs.Ytijplooogplccaa.recs
open Go Go.RowKit Go.Proofs.Ytijplooogplccaa.base Go.Proofs.Ytijplooogplccaa.pairs Go.Proofs.Ytijplooogplccaa.ords Go.Proofs.Ytijplooogplccaa.helps Go.Proofs.Ytijplooogplccaa.help Go.Proofs.Ytijplooogplccaa.lay
set_option linter.unusedVariables false
set_option linter.unusedSimpArgs false

section
variable {w w' : World} {la ma ha : Option Addr} {ln lc mn mc hn hc : Nat} {s : Shd} {F : List Nat}
theorem SeeSh.lens (h : SeeSh w la ln lc ma mn mc ha hn hc s) : s.2.1.length = ln ∧ s.2.2.2.1.length = mn ∧ s.2.2.2.2.length = hn := ⟨h.log.1, h.map.1, h.held.1⟩
end
theorem eqPairsS (a a2 : Option Addr) (len cap len2 cap2 : Nat) (l : List Pr) (w : World) (h : SlP w a len l) (h2 : SlP w a2 len2 l) :
    Calls Try.prog 84 #[.slice a len cap, .slice a2 len2 cap2] w fun e w' => e = .returned (.bool true) ∧ Below w.heap.size w w' :=
  (eqPairS a a2 len cap len2 cap2 l l w h h2).mono fun e w' hp => ⟨by rw [hp.1]; simp, hp.2⟩
set_option maxRecDepth 100000 in
set_option maxHeartbeats 2000000 in
theorem eqShardT (la : Option Addr) (ln lc : Nat) (ma : Option Addr) (mn mc : Nat) (ha : Option Addr) (hn hc : Nat) (la2 : Option Addr) (ln2 lc2 : Nat) (ma2 : Option Addr) (mn2 mc2 : Nat) (ha2 : Option Addr) (hn2 hc2 : Nat) (s : Shd) (w : World) (h : SeeSh w la ln lc ma mn mc ha hn hc s) (h2 : SeeSh w la2 ln2 lc2 ma2 mn2 mc2 ha2 hn2 hc2 s) :
    Calls Try.prog 54 #[aggSh s.1 s.2.2.1 la ln lc ma mn mc ha hn hc, aggSh s.1 s.2.2.1 la2 ln2 lc2 ma2 mn2 mc2 ha2 hn2 hc2] w fun e w' => e = .returned (.bool true) ∧ Below w.heap.size w w' := by
  obtain ⟨l1, l2, l3⟩ := SeeSh.lens h
  obtain ⟨k1, k2, k3⟩ := SeeSh.lens h2
  obtain rfl : ln2 = ln := by omega
  obtain rfl : mn2 = mn := by omega
  obtain rfl : hn2 = hn := by omega
  obtain ⟨W, hW⟩ : ∃ W, (w.alloc (boxSh s.1 s.2.2.1 la ln2 lc ma mn2 mc ha hn2 hc)).alloc (boxSh s.1 s.2.2.1 la2 ln2 lc2 ma2 mn2 mc2 ha2 hn2 hc2) = W := ⟨_, rfl⟩
  have hba : Below w.heap.size w (w.alloc (boxSh s.1 s.2.2.1 la ln2 lc ma mn2 mc ha hn2 hc)) := (Below.refl _ _).alloc (Nat.le_refl _) _
  have hB : Below w.heap.size w W := by rw [← hW]; exact hba.alloc hba.size _
  have hT : BoxIn w.heap.size 56 [] (shVals s.1 s.2.2.1 la ln2 lc ma mn2 mc ha hn2 hc) [] W := by rw [← hW]; exact (boxIn_new w _ _).below ((Below.refl _ _).alloc (Nat.le_refl _) _)
  have hR : BoxIn (w.heap.size + 1) 56 [] (shVals s.1 s.2.2.1 la2 ln2 lc2 ma2 mn2 mc2 ha2 hn2 hc2) [] W := by
    rw [← hW]
    have := boxIn_new (w.alloc (boxSh s.1 s.2.2.1 la ln2 lc ma mn2 mc ha hn2 hc)) (shVals s.1 s.2.2.1 la2 ln2 lc2 ma2 mn2 mc2 ha2 hn2 hc2) 56
    rwa [show (w.alloc (boxSh s.1 s.2.2.1 la ln2 lc ma mn2 mc ha hn2 hc)).heap.size = w.heap.size + 1 by simp] at this
  have HW := Hid.mk' hW
  have a0 := hT.cell 0 _ rfl
  have a1 := hT.cell 1 _ rfl
  have b0 := hR.cell 0 _ rfl
  have b1 := hR.cell 1 _ rfl
  simp only [List.length_nil, Nat.zero_add] at a0 a1 b0 b1
  rw [← hW] at a0 a1 b0 b1
  have f1 : (s.1 == s.1) = true := by simp
  have f2 : (s.2.2.1 == s.2.2.1) = true := by simp
  have H1 := Hid.mk' (eqRecsT la la2 ln2 lc lc2 s.2.1 W (h.log.below hB) (h2.log.below hB))
  have H2 := Hid.mk' (fun wx (hx : Below w.heap.size w wx) => eqPairsS ma ma2 mn2 mc mn2 mc2 s.2.2.2.1 wx (h.map.below hx) (h2.map.below hx))
  have H3 := Hid.mk' (fun wx (hx : Below w.heap.size w wx) => eqRecsT ha ha2 hn2 hc hc2 s.2.2.2.2 wx (h.held.below hx) (h2.held.below hx))
  clear hW l1 l2 l3 k1 k2 k3 h h2
  go_enter Try.func54, Try.ntmps54
  go_wp2_with fail
  rw [HW.out]
  refine H1.out.mono ?_
  rintro e w1 ⟨rfl, hb1⟩
  have hB1 := hB.trans (hb1.mono hB.size)
  have hT1 := hT.below hb1
  have hR1 := hR.below hb1
  have p2 := hT1.cell 2 _ rfl
  have p3 := hT1.cell 3 _ rfl
  have q2 := hR1.cell 2 _ rfl
  have q3 := hR1.cell 3 _ rfl
  simp only [List.length_nil, Nat.zero_add] at p2 p3 q2 q3
  clear a0 a1 b0 b1 H1 HW
  go_wp2_with fail
  refine (H2.out _ hB1).mono ?_
  rintro e w2 ⟨rfl, hb2⟩
  have hB2 := hB1.trans (hb2.mono hB1.size)
  have p4 := (hT1.below hb2).cell 4 _ rfl
  have q4 := (hR1.below hb2).cell 4 _ rfl
  simp only [List.length_nil, Nat.zero_add] at p4 q4
  clear p2 p3 q2 q3 H2
  go_wp2_with fail
  refine (H3.out _ hB2).mono ?_
  rintro e w3 ⟨rfl, hb3⟩
  have hB3 := hB2.trans (hb3.mono hB2.size)
  clear p4 q4 H3
  go_wp2_with fail
  go_ret
  exact ⟨rfl, hB3⟩
end Go.Proofs.Ytijplooogplccaa.recs

namespace Go.Proofs.Ytijplooogplccaa.cos
open Go Go.RowKit Go.Proofs.Ytijplooogplccaa.base Go.Proofs.Ytijplooogplccaa.pairs Go.Proofs.Ytijplooogplccaa.ords Go.Proofs.Ytijplooogplccaa.lay Go.Proofs.Ytijplooogplccaa.wds
set_option linter.unusedVariables false
set_option linter.unusedSimpArgs false

theorem word_at {w : World} {b off len : Nat} {l : List Wd} (h : SlG wordR w (some ⟨b, off, none⟩) len l) (i : Nat) (hi : i < l.length) :
    ∃ oa ol oc, w.cell? ⟨b, off + i * 5, none⟩ = some (.int .i64 l[i].1) ∧ w.cell? ⟨b, off + i * 5 + 1, none⟩ = some (.int .i64 l[i].2.1) ∧ w.cell? ⟨b, off + i * 5 + 2, none⟩ = some (.int .i64 l[i].2.2.1) ∧ w.cell? ⟨b, off + i * 5 + 3, none⟩ = some (.slice oa ol oc) ∧ w.cell? ⟨b, off + i * 5 + 4, none⟩ = some (.bool l[i].2.2.2.2) ∧ SlO w oa ol l[i].2.2.2.1 ∧ ol ≤ oc := by
  obtain ⟨u0, u1, u2, u3, u4, hs, c0, c1, c2, c3, c4⟩ := slg_at5 rfl h i hi
  obtain ⟨oa, ol, oc, e, _, _, _, h4, h5⟩ := word_see.1 hs
  simp only [List.cons.injEq, and_true] at e
  obtain ⟨rfl, rfl, rfl, rfl, rfl⟩ := e
  exact ⟨oa, ol, oc, c0, c1, c2, c3, c4, h4, h5⟩
set_option maxRecDepth 100000 in
set_option maxHeartbeats 1000000 in
theorem eqWord1T (k s t : Int) (y : Bool) (pa qa : Option Addr) (pl pc ql qc : Nat) (l : List Od) (w : World) (hx : SlO w pa pl l) (hy : SlO w qa ql l) :
    Calls Try.prog 55 #[.agg #[.int .i64 k, .int .i64 s, .int .i64 t, .slice pa pl pc, .bool y], .agg #[.int .i64 k, .int .i64 s, .int .i64 t, .slice qa ql qc, .bool y]] w fun e w' => e = .returned (.bool true) ∧ Below w.heap.size w w' := by
  obtain ⟨W, hW⟩ : ∃ W, (w.alloc (.cells #[.int .i64 k, .int .i64 s, .int .i64 t, .slice pa pl pc, .bool y] 92)).alloc (.cells #[.int .i64 k, .int .i64 s, .int .i64 t, .slice qa ql qc, .bool y] 92) = W := ⟨_, rfl⟩
  have hB : Below w.heap.size w W := by rw [← hW]; exact below_two _ _ _
  have vx : BoxIn w.heap.size 92 [] [.int .i64 k, .int .i64 s, .int .i64 t, .slice pa pl pc, .bool y] [] W := by rw [← hW]; exact (boxIn_new w _ _).below below_make
  have vy : BoxIn (w.heap.size + 1) 92 [] [.int .i64 k, .int .i64 s, .int .i64 t, .slice qa ql qc, .bool y] [] W := by
    rw [← hW]
    have := boxIn_new (w.alloc (.cells #[.int .i64 k, .int .i64 s, .int .i64 t, .slice pa pl pc, .bool y] 92)) [.int .i64 k, .int .i64 s, .int .i64 t, .slice qa ql qc, .bool y] 92
    rwa [show (w.alloc (.cells #[.int .i64 k, .int .i64 s, .int .i64 t, .slice pa pl pc, .bool y] 92)).heap.size = w.heap.size + 1 by simp] at this
  have HE := Hid.mk' (eqO pa qa pl pc ql qc l l W (hx.below hB) (hy.below hB) rfl)
  have HW := Hid.mk' hW
  clear hW
  cases y
  all_goals
    have hn1 : (k == k) = true := by simp
    have hn2 : (s == s) = true := by simp
    have hn3 : (t == t) = true := by simp
    go_enter Try.func55, Try.ntmps55
    go_wp2_with fail
    rw [HW.out]
    refine HE.out.mono ?_
    rintro e w1 ⟨rfl, hb1⟩
    have hB1 := hB.trans (hb1.mono hB.size)
    have x4 := (vx.below hb1).cell 4 _ rfl
    have y4 := (vy.below hb1).cell 4 _ rfl
    rw [show ([] : List Value).length + 4 = 4 from rfl] at x4 y4
    clear HE HW hb1 vx vy
    go_wp2_with fail
    go_ret
    exact ⟨rfl, hB1⟩
set_option maxRecDepth 100000 in
set_option maxHeartbeats 2000000 in
theorem eqWordsT (a a2 : Option Addr) (len cap cap2 : Nat) (l : List Wd) (w : World) (h : SlG wordR w a len l) (h2 : SlG wordR w a2 len l) :
    Calls Try.prog 25 #[.slice a len cap, .slice a2 len cap2] w fun e w' => e = .returned (.bool true) ∧ Below w.heap.size w w' := by
  have hl := h.1
  have hm := h.2.1
  unfold maxLen at hm
  have hb : ((len : Int) == (len : Int)) = true := by simp
  go_enter Try.func25, Try.ntmps25
  go_wp2_with fail
  go_loopw [5] (fun i wr => ∃ k : Nat, k ≤ len ∧ i = .int .i64 k ∧ Below w.heap.size w wr) (fun i _ => len - (intOf i).toNat)
  case atStart => exact ⟨0, Nat.zero_le _, rfl, Below.refl _ _⟩
  case round =>
    obtain ⟨k, hk, rfl, hB⟩ := hrel
    by_cases hlt : k < len
    · have hltl : k < l.length := by omega
      obtain ⟨b, off, e⟩ := slg_some h (by omega)
      obtain ⟨b2, off2, e2⟩ := slg_some h2 (by omega)
      subst e e2
      have hki : (k : Int) < (len : Int) := by omega
      obtain ⟨oa, ol, oc, c0, c1, c2, c3, c4, hO1, _⟩ := word_at (h.below hB) k hltl
      obtain ⟨ob, bl, bc, d0, d1, d2, d3, d4, hO2, _⟩ := word_at (h2.below hB) k hltl
      have o0 := last.On.cell (B := wr.heap.size) c0 (World.block_lt_of_cell? _ _ c0)
      have o1 := last.On.cell (B := wr.heap.size) c1 (World.block_lt_of_cell? _ _ c1)
      have o2 := last.On.cell (B := wr.heap.size) c2 (World.block_lt_of_cell? _ _ c2)
      have o3 := last.On.cell (B := wr.heap.size) c3 (World.block_lt_of_cell? _ _ c3)
      have o4 := last.On.cell (B := wr.heap.size) c4 (World.block_lt_of_cell? _ _ c4)
      have p0 := last.On.cell (B := wr.heap.size) d0 (World.block_lt_of_cell? _ _ d0)
      have p1 := last.On.cell (B := wr.heap.size) d1 (World.block_lt_of_cell? _ _ d1)
      have p2 := last.On.cell (B := wr.heap.size) d2 (World.block_lt_of_cell? _ _ d2)
      have p3 := last.On.cell (B := wr.heap.size) d3 (World.block_lt_of_cell? _ _ d3)
      have p4 := last.On.cell (B := wr.heap.size) d4 (World.block_lt_of_cell? _ _ d4)
      have hinh := last.On.inh wr.heap.size wr
      have hcall : ∀ x : last.On wr.heap.size wr, Calls Try.prog 55 #[.agg #[.int .i64 l[k].1, .int .i64 l[k].2.1, .int .i64 l[k].2.2.1, .slice oa ol oc, .bool l[k].2.2.2.2], .agg #[.int .i64 l[k].1, .int .i64 l[k].2.1, .int .i64 l[k].2.2.1, .slice ob bl bc, .bool l[k].2.2.2.2]] x.w fun e w' => e = .returned (.bool true) ∧ ∃ y : last.On wr.heap.size wr, w' = y.w := fun x => last.Calls.on x (Nat.le_refl _) (eqWord1T _ _ _ _ oa ob ol oc bl bc l[k].2.2.2.1 x.w (hO1.below x.2) (hO2.below x.2))
      clear h h2 hO1 hO2
      generalize l[k] = p at *
      go_wp2_with fail
      refine last.wp_region_on wr.heap.size (by kernel_rfl) (by kernel_rfl) ?_
      repeat (go_big_quiet_step ((go_at_call 55; exact hcall _)))
      refine wpQuiet_nil ?_
      intro w5 hw5
      obtain ⟨x5, hw5⟩ := hw5
      subst hw5
      have hB5 : Below w.heap.size w x5.w := hB.trans (x5.2.mono hB.size)
      go_wp2_with fail
      go_roundw
      case rel => exact ⟨k + 1, by omega, by go_num, hB5⟩
      case measure => simp [intOf]; omega
    · have hnk : ¬ (k : Int) < (len : Int) := by omega
      go_wp2_with fail
      go_ret
      exact ⟨rfl, hB⟩
end Go.Proofs.Ytijplooogplccaa.cos
