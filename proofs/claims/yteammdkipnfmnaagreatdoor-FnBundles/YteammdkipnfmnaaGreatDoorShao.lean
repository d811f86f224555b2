/- What bends a proof. -/
import Derived.Test.YteammdkipnfmnaaGreatDoorShal
import Derived.Test.YteammdkipnfmnaaGreatDoorShan
namespace Go.Proofs.YteammdkipnfmnaaGreatDoor.range
open Go Go.RowKit Go.Proofs.YteammdkipnfmnaaGreatDoor.base Go.Proofs.YteammdkipnfmnaaGreatDoor.pairs Go.Proofs.YteammdkipnfmnaaGreatDoor.tree Go.Proofs.YteammdkipnfmnaaGreatDoor.draw
set_option linter.unusedVariables false
set_option linter.unusedSimpArgs false

def NoStr (w : World) (k : Nat) : Prop := ∀ o s, w.cell? ⟨k, o, none⟩ ≠ some (.string s)
theorem noStr_cells {w : World} {k : Nat} {x y z : Value} {t : TypeId} {mk : Nat × Nat} (h : w.heap[k]? = some (.cells #[x, y, z] t mk)) (hx : ∀ s, x ≠ .string s) (hy : ∀ s, y ≠ .string s) (hz : ∀ s, z ≠ .string s) : NoStr w k := by
  intro o s
  rw [cell_of_row w k o _ t mk h]
  match o with
  | 0 => simpa using hx s
  | 1 => simpa using hy s
  | 2 => simpa using hz s
  | n + 3 => simp
theorem V3.noStr {w : World} {k : Nat} {n fr : Int} {a : Option Addr} {m c : Nat} {t : TypeId} (h : V3 w k t (.int .i64 n) (.int .i64 fr) (.slice a m c)) : NoStr w k := noStr_cells h (by simp) (by simp) (by simp)
theorem cur_noStr {w0 w : World} {gc : Nat} {a : Option Addr} {len cap : Nat} {code : List UInt8} (h : Cur w0 w gc a len cap code) : NoStr w gc := by
  obtain ⟨_, _, _, _, i, hh, _, _, hrow⟩ := h
  exact noStr_cells hrow (by simp) (by simp) (by simp)
theorem sls_keep {w w' : World} {b o n k : Nat} {p : List ByteArray} (h : SlS w (some ⟨b, o, none⟩) n p) (hk : NoStr w k) (hg : w.grownBy w' (some k)) : SlS w' (some ⟨b, o, none⟩) n p := by
  obtain ⟨h1, h2, h3, h4⟩ := h
  refine ⟨h1, h2, h3, fun h0 => ?_⟩
  obtain ⟨b', o', e, hc⟩ := h4 h0
  refine ⟨b', o', e, fun i hi => ?_⟩
  have hci := hc i hi
  exact hg.cell hci (fun e => by cases e; exact hk _ _ hci)
theorem slJ_keep {w w' : World} {a : Option Addr} {m k : Nat} {l : List It} (h : SlJ w a m l) (hk : NoStr w k) (hg : w.grownBy w' (some k)) : SlJ w' a m l := by
  obtain ⟨h1, h2, h3, h4⟩ := h
  refine ⟨h1, h2, h3, fun h0 => ?_⟩
  obtain ⟨b, off, e, hc⟩ := h4 h0
  refine ⟨b, off, e, fun i hi => ?_⟩
  obtain ⟨c1, c2, pb, po, pc, c3, hS, hpc⟩ := hc i hi
  have hne : (some b : Option Nat) ≠ some k := fun e => by cases e; exact hk _ _ c1
  exact ⟨hg.cell c1 hne, hg.cell c2 hne, pb, po, pc, hg.cell c3 hne, sls_keep hS hk hg, hpc⟩
theorem slJ_nil (w : World) (a : Option Addr) : SlJ w a 0 [] := ⟨rfl, Nat.zero_le _, (fun _ h => absurd h List.not_mem_nil), fun h => absurd h (by omega)⟩
theorem slJ_drop {w : World} {b off m k : Nat} {l : List It} (h : SlJ w (some ⟨b, off, none⟩) m l) : SlJ w (some ⟨b, off + k * 3, none⟩) (m - k) (l.drop k) := by
  have hl := h.1
  refine ⟨by rw [List.length_drop, hl], by have := h.2.1; omega, fun x hx => h.2.2.1 x (List.mem_of_mem_drop hx), fun h0 => ⟨b, off + k * 3, rfl, fun i hi => ?_⟩⟩
  rw [List.length_drop] at hi
  have := h.at (k + i) (by omega)
  rw [List.getElem_drop, show off + k * 3 + i * 3 = off + (k + i) * 3 by omega]
  exact this
theorem slJ_take {w : World} {b off m k : Nat} {l : List It} (h : SlJ w (some ⟨b, off, none⟩) m l) (hk : k ≤ m) : SlJ w (some ⟨b, off, none⟩) k (l.take k) := by
  have hl := h.1
  refine ⟨by rw [List.length_take]; omega, by have := h.2.1; omega, fun x hx => h.2.2.1 x (List.mem_of_mem_take hx), fun h0 => ⟨b, off, rfl, fun i hi => ?_⟩⟩
  rw [List.length_take] at hi
  rw [List.getElem_take]
  exact h.at i (by omega)
theorem rowJ {w : World} {base g n cap : Nat} {l : List It} {hs : List Hd} (hr : w.ownsRow base 107 3 (.slice (some ⟨g, 0, none⟩) n cap) n (itVals l hs)) (hn : l.length = n) (hh : hs.length = l.length) (hm : n ≤ 1000) (ht : ∀ x ∈ l, tinyI x)
    (hp : ∀ i (h : i < l.length), (hs[i]'(by omega)).2.1 = l[i].2.length ∧ SlS w (some ⟨(hs[i]'(by omega)).1, 0, none⟩) l[i].2.length l[i].2 ∧ l[i].2.length ≤ (hs[i]'(by omega)).2.2) : SlJ w (some ⟨g, 0, none⟩) n l := by
  refine ⟨hn, by omega, fun x hx => (ht x hx).lim, fun _ => ⟨g, 0, rfl, fun i hi => ?_⟩⟩
  obtain ⟨h1, h2, h3⟩ := itVals_get l hs hh i hi
  have key : ∀ j u, (itVals l hs)[j]? = some u → w.cell? ⟨g, j, none⟩ = some u := fun j u hu => by
    have := hr.cells (g := g) rfl j u hu
    rw [Addr.add_lit, Nat.zero_add] at this
    exact this
  obtain ⟨p1, p2, p3⟩ := hp i hi
  rw [Nat.zero_add]
  rw [p1] at h3
  exact ⟨key _ _ h1, key _ _ h2, _, 0, _, key _ _ h3, p2, p3⟩
theorem itVals_app (l m : List It) (hs ks : List Hd) (h : hs.length = l.length) : itVals (l ++ m) (hs ++ ks) = itVals l hs ++ itVals m ks := by
  unfold itVals
  rw [List.zip_append h.symm, List.flatMap_append]
def Bounds (N FR : Int) : Prop := (-1 ≤ N ∧ N ≤ 61) ∧ -1 ≤ FR ∧ FR ≤ 61
def GotBend (w0 w : World) (gc : Nat) (a : Option Addr) (len cap : Nat) (code : List UInt8) (e : Ending) (w' : World) : Prop :=
  ∃ (N FR : Int) (sa : Option Addr) (sm sc : Nat) (L : List It), e = .returned (.agg #[.int .i64 N, .int .i64 FR, .slice sa sm sc]) ∧ Bounds N FR ∧ sm ≤ 100 ∧ (∀ x ∈ L, tinyI x) ∧ SlJ w' sa sm L ∧ Cur w0 w' gc a len cap code ∧ w.grownBy w' (some gc)
theorem v3_set {w : World} {g : Nat} {t : TypeId} {x y z : Value} (h : V3 w g t x y z) : (∀ u, V3 (w.setCell ⟨g, 0, none⟩ u) g t u y z ∧ w.grownBy (w.setCell ⟨g, 0, none⟩ u) (some g)) ∧ (∀ u, V3 (w.setCell ⟨g, 1, none⟩ u) g t x u z ∧ w.grownBy (w.setCell ⟨g, 1, none⟩ u) (some g)) ∧ (∀ u, V3 (w.setCell ⟨g, 2, none⟩ u) g t x y u ∧ w.grownBy (w.setCell ⟨g, 2, none⟩ u) (some g)) :=
  ⟨fun u => ⟨(set_cur h 0 u).1, (set_cur h 0 u).2⟩, fun u => ⟨(set_cur h 1 u).1, (set_cur h 1 u).2⟩, fun u => ⟨(set_cur h 2 u).1, (set_cur h 2 u).2⟩⟩
theorem v3_all {w : World} {g : Nat} {t : TypeId} {x y z : Value} (h : V3 w g t x y z) (a b c : Value) : V3 (((w.setCell ⟨g, 0, none⟩ a).setCell ⟨g, 1, none⟩ b).setCell ⟨g, 2, none⟩ c) g t a b c ∧ w.grownBy (((w.setCell ⟨g, 0, none⟩ a).setCell ⟨g, 1, none⟩ b).setCell ⟨g, 2, none⟩ c) (some g) := by
  have h1 := (v3_set h).1 a
  have h2 := (v3_set h1.1).2.1 b
  have h3 := (v3_set h2.1).2.2 c
  exact ⟨h3.1, grownBy_trans (grownBy_trans h1.2 h2.2) h3.2⟩
theorem bend_done {w0 w wz : World} {gc r : Nat} {a : Option Addr} {len cap : Nat} {code : List UInt8} {N FR : Int} {sa : Option Addr} {sm sc : Nat} {L : List It} {t : TypeId} (hC : Cur w0 wz gc a len cap code) (hR : V3 wz r t (.int .i64 0) (.int .i64 0) (.slice none 0 0)) (hG : w.grownBy wz (some gc)) (hJ : SlJ wz sa sm L) (hb : Bounds N FR) (hm : sm ≤ 100) (ht : ∀ x ∈ L, tinyI x) (hr : w.heap.size ≤ r) (hgr : gc < r) :
    GotBend w0 w gc a len cap code (.returned (.agg #[.int .i64 N, .int .i64 FR, .slice sa sm sc])) (((wz.setCell ⟨r, 0, none⟩ (.int .i64 N)).setCell ⟨r, 1, none⟩ (.int .i64 FR)).setCell ⟨r, 2, none⟩ (.slice sa sm sc)) := by
  have h := (v3_all hR (.int .i64 N) (.int .i64 FR) (.slice sa sm sc)).2
  exact ⟨N, FR, sa, sm, sc, L, rfl, hb, hm, ht, slJ_keep hJ hR.noStr h, hC.grown h (by simp; omega) (fun k e => by cases e; have := hC.ge; omega), grown_own hG h hr⟩
def tinyJ (x : It) : Prop := (x.1.1.size ≤ 13 ∧ x.1.2.size ≤ 21) ∧ x.2.length ≤ 60 ∧ ∀ s ∈ x.2, s.size ≤ 32
theorem tinyJ.tiny {x : It} (h : tinyJ x) : tinyI x := ⟨h.1, by have := h.2.1; omega, h.2.2⟩
theorem frozen_of_block {w w' : World} {g : Nat} (h : w'.heap[g]? = w.heap[g]?) (j : Nat) : w'.frozen? ⟨g, j, none⟩ = w.frozen? ⟨g, j, none⟩ := by
  simp only [World.frozen?, h]
theorem itVals_set2 (l : List It) (hs : List Hd) (h : hs.length = l.length) (i : Nat) (hi : i < l.length) (y : Hd) : (itVals l hs).set (i * 3 + 2) (.slice (some ⟨y.1, 0, none⟩) y.2.1 y.2.2) = itVals l (hs.set i y) := by
  induction l generalizing hs i with
  | nil => simp at hi
  | cons x l ih =>
    cases hs with
    | nil => simp at h
    | cons z hs =>
      have e : ∀ (z : Hd) hs, itVals (x :: l) (z :: hs) = .string x.1.1 :: .string x.1.2 :: .slice (some ⟨z.1, 0, none⟩) z.2.1 z.2.2 :: itVals l hs := fun _ _ => rfl
      cases i with
      | zero => rw [e]; simp [e]
      | succ i =>
        rw [e, show (i + 1) * 3 + 2 = i * 3 + 2 + 1 + 1 + 1 by omega]
        simp only [List.set_cons_succ, e]
        rw [ih hs (by simpa using h) i (by simpa using hi)]
theorem path_read {w : World} {base : Nat} {y : Hd} {p : List ByteArray} (h : OwnS w base y.1 y.2.1 y.2.2 p) : y.2.1 = p.length ∧ SlS w (some ⟨y.1, 0, none⟩) p.length p ∧ p.length ≤ y.2.2 :=
  ⟨h.1.symm, by rw [h.1]; exact h.sl, by rw [h.1]; exact h.cases.1⟩
theorem own_newPath {w w2 w3 : World} {base g n cap : Nat} {l : List It} {hs : List Hd} (h : OwnI w base (.slice (some ⟨g, 0, none⟩) n cap) l hs) (k : Nat) (hk : k < l.length) (hkh : k < hs.length) {P' : List ByteArray} {g' n' c' : Nat} (hb : Below w.heap.size w w2) (hg : w2.grownBy w3 (some hs[k].1)) (hO : OwnS w3 base g' n' c' P') (hm : n ≤ 1000) (ht : ∀ x ∈ l.set k (l[k].1, P'), tinyI x) :
    SlJ (w3.setCell ⟨g, k * 3 + 2, none⟩ (.slice (some ⟨g', 0, none⟩) n' c')) (some ⟨g, 0, none⟩) n (l.set k (l[k].1, P')) ∧ w3.grownBy (w3.setCell ⟨g, k * 3 + 2, none⟩ (.slice (some ⟨g', 0, none⟩) n' c')) (some g) := by
  have hn := h.nlen
  have hlen := h.len
  have hne : hs[k].1 ≠ g := h.out g rfl _ (List.getElem_mem hkh)
  have hrow3 : w3.ownsRow base 107 3 (.slice (some ⟨g, 0, none⟩) n cap) l.length (itVals l hs) := (h.below hb).row.kept hg (.inr (by simpa [Value.ownBlock] using fun e => hne e.symm))
  subst hn
  have hst := hrow3.stored (k * 3 + 2) (.slice (some ⟨g', 0, none⟩) n' c')
  have e1 := itVals_set2 l hs hlen k hk (g', n', c')
  simp only [] at e1
  rw [e1] at hst
  have hgg : g' ≠ g := fun e => row_ne hrow3 hO.2.2 (k := g) rfl (by rw [e]; rfl) (by decide)
  have hkeep : ∀ {y : Hd} {p : List ByteArray}, OwnS w3 base y.1 y.2.1 y.2.2 p → y.1 ≠ g → OwnS (w3.setCell ⟨g, k * 3 + 2, none⟩ (.slice (some ⟨g', 0, none⟩) n' c')) base y.1 y.2.1 y.2.2 p := fun hS hy => hS.grown hst.2 (by simpa using hy)
  refine ⟨rowJ (hs := hs.set k (g', n', c')) (base := base) (cap := cap) (by rw [itVals_path l (hs.set k (g', n', c')) k P' (by simpa using hlen) hk]; simpa using hst.1) (by simp) (by simpa using hlen) hm ht (fun i hi => ?_), hst.2⟩
  have hil : i < l.length := by simpa using hi
  by_cases e : k = i
  · subst e
    simp only [List.getElem_set_self]
    exact path_read (y := (g', n', c')) (hkeep (y := (g', n', c')) hO hgg)
  · simp only [List.getElem_set_ne e]
    have hi' : i < hs.length := by omega
    have hap : hs[i].1 ≠ hs[k].1 := by
      rcases Nat.lt_or_gt_of_ne e with hlt | hlt
      · exact fun e2 => (List.pairwise_iff_getElem.1 h.apart k i hkh hi' hlt) e2.symm
      · exact List.pairwise_iff_getElem.1 h.apart i k hi' hkh hlt
    have hS := ((h.paths i hil).below hb).grown hg (by simpa using hap)
    exact path_read (hkeep hS (h.out g rfl _ (List.getElem_mem hi')))
theorem dup_at (l : List It) (hs : List Hd) (hlen : hs.length = l.length) (k : Nat) (hk : k < l.length) (hkh : k < hs.length) (i : Nat) (h1 : i < (l.take k ++ l[k] :: l.drop k).length) (h2 : i < (hs.take k ++ hs[k] :: hs.drop k).length) :
    ∃ j, ∃ (hj : j < l.length) (hj' : j < hs.length), (l.take k ++ l[k] :: l.drop k)[i] = l[j] ∧ (hs.take k ++ hs[k] :: hs.drop k)[i] = hs[j] := by
  have hl1 : (l.take k).length = k := by rw [List.length_take]; omega
  have hl2 : (hs.take k).length = k := by rw [List.length_take]; omega
  have hn1 : (l.take k ++ l[k] :: l.drop k).length = l.length + 1 := by simp; omega
  by_cases h : i < k
  · refine ⟨i, by omega, by omega, ?_, ?_⟩
    · rw [List.getElem_append_left (by omega), List.getElem_take]
    · rw [List.getElem_append_left (by omega), List.getElem_take]
  · by_cases e : i = k
    · subst e
      refine ⟨i, hk, hkh, ?_, ?_⟩
      · rw [List.getElem_append_right (by omega)]; simp [hl1]
      · rw [List.getElem_append_right (by omega)]; simp [hl2]
    · obtain ⟨q, rfl⟩ : ∃ q, i = k + (q + 1) := ⟨i - k - 1, by omega⟩
      refine ⟨k + q, by omega, by omega, ?_, ?_⟩
      · rw [List.getElem_append_right (by omega)]
        simp only [hl1, show k + (q + 1) - k = q + 1 by omega, List.getElem_cons_succ, List.getElem_drop]
      · rw [List.getElem_append_right (by omega)]
        simp only [hl2, show k + (q + 1) - k = q + 1 by omega, List.getElem_cons_succ, List.getElem_drop]
theorem dup_row {w w' : World} {base base' g n cap gg nn cc : Nat} {l : List It} {hs : List Hd} (h : OwnI w base (.slice (some ⟨g, 0, none⟩) n cap) l hs) (hb : Below w.heap.size w w') (k : Nat) (hk : k < l.length) (hkh : k < hs.length)
    (hrow : w'.ownsRow base' 107 3 (.slice (some ⟨gg, 0, none⟩) nn cc) nn (itVals (l.take k ++ l[k] :: l.drop k) (hs.take k ++ hs[k] :: hs.drop k))) (hn : nn = l.length + 1) (hm : nn ≤ 1000) (ht : ∀ x ∈ l, tinyI x) : SlJ w' (some ⟨gg, 0, none⟩) nn (l.take k ++ l[k] :: l.drop k) ∧ ∀ x ∈ l.take k ++ l[k] :: l.drop k, tinyI x := by
  have hlen := h.len
  have hln : (l.take k ++ l[k] :: l.drop k).length = l.length + 1 := by simp; omega
  have hhn : (hs.take k ++ hs[k] :: hs.drop k).length = hs.length + 1 := by simp; omega
  have htz : ∀ x ∈ l.take k ++ l[k] :: l.drop k, tinyI x := fun x hx => by
    rcases List.mem_append.1 hx with h1 | h1
    · exact ht x (List.mem_of_mem_take h1)
    · rcases List.mem_cons.1 h1 with h2 | h2
      · subst h2; exact ht _ (List.getElem_mem hk)
      · exact ht x (List.mem_of_mem_drop h2)
  refine ⟨rowJ hrow (by omega) (by omega) hm htz (fun i hi => ?_), htz⟩
  obtain ⟨j, hj, hj', e1, e2⟩ := dup_at l hs hlen k hk hkh i hi (by omega)
  rw [e2, e1]
  exact path_read ((h.paths j hj).below hb)
theorem mk_row (w : World) (base g : Nat) (hg : w.heap.size = g) (hb : base ≤ w.heap.size) : (w.alloc (.cells #[] 107)).ownsRow base 107 3 (.slice (some ⟨g, 0, none⟩) 0 0) 0 [] := by
  subst hg; exact World.ownsRow_made w #[] 0 hb (Nat.zero_le _) rfl
set_option maxRecDepth 100000 in
set_option maxHeartbeats 8000000 in
theorem d_bend (w0 w : World) (gc : Nat) (a : Option Addr) (len cap : Nat) (code : List UInt8) (h : Cur w0 w gc a len cap code) (n fr : Int) (fa : Option Addr) (m c : Nat) (its : List It) (hJ : SlJ w fa m its) (hm : m ≤ 40) (hn : 0 ≤ n ∧ n ≤ 60) (hfr : 0 ≤ fr ∧ fr ≤ 60) (ht : ∀ x ∈ its, tinyJ x) :
    Calls Tryz.prog 56 #[.pointer (some ⟨gc, 0, none⟩), .agg #[.int .i64 n, .int .i64 fr, .slice fa m c]] w fun e w' => GotBend w0 w gc a len cap code e w' := by
  obtain ⟨i0, hif, hz0, hz1, hz2⟩ := info_parts infoI
  obtain ⟨j0, hjf, hy0, hy1, hy2⟩ := info_parts info9
  have hlen := hJ.1
  subst hlen
  have hcl := h.lt
  have hge := h.ge
  have htI : ∀ x ∈ its, tinyI x := fun x hx => (ht x hx).tiny
  obtain ⟨w1, hw1⟩ : ∃ w1, (w.alloc (.cells #[.int .i64 n, .int .i64 fr, .slice fa its.length c] 64)).alloc (.cells #[.int .i64 0, .int .i64 0, .slice none 0 0] 64) = w1 := ⟨_, rfl⟩
  have hb1 : Below w.heap.size w w1 := by rw [← hw1]; exact ((Below.refl _ _).alloc (Nat.le_refl _) _).alloc (by simp) _
  have hs1 : w1.heap.size = w.heap.size + 2 := by rw [← hw1]; simp
  have hV1 : V3 w1 w.heap.size 64 (.int .i64 n) (.int .i64 fr) (.slice fa its.length c) := by
    rw [← hw1]; exact V3.below (heap_alloc_new w _) ((Below.refl _ _).alloc (Nat.le_refl _) _)
  have hR1 : V3 w1 (w.heap.size + 1) 64 (.int .i64 0) (.int .i64 0) (.slice none 0 0) := by
    rw [← hw1]
    have := heap_alloc_new (w.alloc (.cells #[.int .i64 n, .int .i64 fr, .slice fa its.length c] 64)) (.cells #[.int .i64 0, .int .i64 0, .slice none 0 0] 64)
    rw [show (w.alloc (.cells #[.int .i64 n, .int .i64 fr, .slice fa its.length c] 64)).heap.size = w.heap.size + 1 by simp] at this
    exact this
  have HCP := Hid.mk' (spec_l5Copy n fr fa its.length c its w1 (hJ.below hb1) (by omega) htI)
  have hC1 := h.below hb1
  have u0 := hV1.c0
  have u1 := hV1.c1
  have u2 := hV1.c2
  have HW1 := Hid.mk' hw1
  clear hJ hw1 h
  go_enter Tryz.func56, Tryz.ntmps56
  go_wp2_with (at_builtin; fail)
  (try rw [HW1.out])
  clear HW1
  refine HCP.out.mono ?_
  rintro e w2 ⟨sa, sm, sc, hs, rfl, hO2, hb2⟩
  have hV2 := hV1.below hb2
  have hR2 := hR1.below hb2
  have hC2 := hC1.below hb2
  obtain ⟨w3, hw3⟩ : ∃ w3, ((w2.setCell ⟨w.heap.size, 0, none⟩ (.int .i64 n)).setCell ⟨w.heap.size, 1, none⟩ (.int .i64 fr)).setCell ⟨w.heap.size, 2, none⟩ (.slice sa sm sc) = w3 := ⟨_, rfl⟩
  have hV3 := v3_all hV2 (.int .i64 n) (.int .i64 fr) (.slice sa sm sc)
  rw [hw3] at hV3
  have hR3 := v3_grown hR2 hV3.2 (by simp)
  have hC3 := hC2.grown hV3.2 (by simp; omega) (fun k e => by cases e; omega)
  have hO3 : OwnI w3 (w.heap.size + 2) (.slice sa sm sc) its hs := (hO2.mono (by omega)).grown hV3.2 (fun e => by have := (hO2.lt _ e).1; omega)
  have hG3 : w.grownBy w3 (some gc) := grown_own (grown_below (grown_below ⟨rfl, rfl, rfl, Nat.le_refl _, fun _ _ _ => rfl⟩ hb1) hb2) hV3.2 (Nat.le_refl _)
  have hsm : sm = its.length := by
    rcases hO3.shape with ⟨e, rfl, _⟩ | ⟨g, cg, e, _⟩
    · cases e; rfl
    · cases e; rfl
  subst hsm
  have t0 := hV2.c0
  have t1 := hV2.c1
  have t2 := hV2.c2
  have f0 := v3_fz hV2 0
  have f1 := v3_fz hV2 1
  have f2 := v3_fz hV2 2
  have g0 := hV3.1.c0
  have g1 := hV3.1.c1
  have g2 := hV3.1.c2
  have HV := Hid.mk' hV3.1
  have HR := Hid.mk' hR3
  have HO := Hid.mk' hO3
  have HG := Hid.mk' hG3
  have HW3 := Hid.mk' hw3
  clear hV1 hR1 hC1 hb1 hV2 hR2 hC2 hO2 hb2 hV3 hR3 hO3 hG3 HCP u0 u1 u2 hw3
  by_cases hne : its = []
  · subst hne
    replace HW3 : Hid (((w2.setCell ⟨w.heap.size, 0, none⟩ (.int .i64 n)).setCell ⟨w.heap.size, 1, none⟩ (.int .i64 fr)).setCell ⟨w.heap.size, 2, none⟩ (.slice sa 0 sc) = w3) := HW3
    replace HV : Hid (V3 w3 w.heap.size 64 (.int .i64 n) (.int .i64 fr) (.slice sa 0 sc)) := HV
    replace HO : Hid (OwnI w3 (w.heap.size + 2) (.slice sa 0 sc) [] hs) := HO
    have hneg : ¬ (0 : Int) < ((0 : Nat) : Int) := by omega
    have htI : ∀ x ∈ ([] : List It), tinyI x := fun _ h => absurd h List.not_mem_nil
    go_wp2_with (at_builtin; fail)
    rw [HW3.out]
    clear HW3 t0 t1 t2 f0 f1 f2 g0 g1 g2
    refine (below_ w0 _ gc a len cap code _ hC3 (by omega) (by omega)).mono ?_
    rintro e w5 ⟨x, hx, rfl, hC5, hG5'⟩
    have hV5 := v3_grown HV.out hG5' (by simp; omega)
    have hR5 := v3_grown HR.out hG5' (by simp; omega)
    have hO5 := HO.out.grown hG5' (fun e => by have := (HO.out.lt _ e).1; omega)
    have hG5 := grownBy_trans HG.out hG5'
    clear HV HR HO HG hC3 hG5'
    rcases hO5.shape with ⟨e9, _, _⟩ | ⟨g, cg, e9, _, _⟩
    · have e8 : sa = none ∧ sc = 0 := by simpa using e9
      obtain ⟨rfl, rfl⟩ := e8
      clear e9
      by_cases x0 : x = 0
      · subst x0
        have hba : ∀ o, Below w5.heap.size w5 (w5.alloc o) := fun o => (Below.refl _ _).alloc (Nat.le_refl _) _
        have hlt5 := hC5.lt
        have y0 := hV5.c0
        have y1 := hV5.c1
        go_wp2_with (at_builtin; fail)
        refine (int_ w0 _ gc a len cap code w5.heap.size 5 5 _ _ (hC5.below (hba _)) (heap_alloc_new w5 _) rfl (by omega) (by omega) (by omega) (fun z => -1 ≤ z ∧ z ≤ 61) ?_).mono ?_
        · intro i hi
          match i, hi with
          | 0, _ => exact ⟨_, rfl, by omega⟩
          | 1, _ => exact ⟨_, rfl, by omega⟩
          | 2, _ => exact ⟨_, rfl, by omega⟩
          | 3, _ => exact ⟨_, rfl, by omega⟩
          | 4, _ => exact ⟨_, rfl, by omega⟩
        rintro e w6 ⟨N, hN, rfl, hC6, hG6⟩
        have hV6 := v3_grown (hV5.below (hba _)) hG6 (by simp; omega)
        have hR6 := v3_grown (hR5.below (hba _)) hG6 (by simp; omega)
        have hO6 := (hO5.below (hba _)).grown hG6 (fun e => by have := (hO5.lt _ e).1; omega)
        have hG6' := grownBy_trans (grown_below hG5 (hba _)) hG6
        obtain ⟨w7, hw7⟩ : ∃ w7, w6.setCell ⟨w.heap.size, 0, none⟩ (.int .i64 N) = w7 := ⟨_, rfl⟩
        have hV7 := (v3_set hV6).1 (.int .i64 N)
        rw [hw7] at hV7
        have hR7 := v3_grown hR6 hV7.2 (by simp)
        have hC7 := hC6.grown hV7.2 (by simp; omega) (fun k e => by cases e; omega)
        have hO7 := hO6.grown hV7.2 (fun e => by have := (hO6.lt _ e).1; omega)
        have hG7 := grown_own hG6' hV7.2 (Nat.le_refl _)
        have hVz := hV7.1
        have y0 := hV6.c0
        have y1 := hV6.c1
        have p0 := v3_fz hV6 0
        have hJ7 := hO7.slJ (by omega) (fun x hx => (htI x hx).lim)
        have z0 := hVz.c0
        have z1 := hVz.c1
        have z2 := hVz.c2
        have r0 := hR7.c0
        have r1 := hR7.c1
        have r2 := hR7.c2
        have q0 := v3_fz hR7 0
        have q1 := v3_fz hR7 1
        have q2 := v3_fz hR7 2
        have HD := Hid.mk' (bend_done (w := w) (N := N) (FR := fr) (sc := 0) hC7 hR7 hG7 hJ7 ⟨by omega, by omega⟩ (by omega) htI (Nat.le_succ _) (by omega))
        clear hV5 hR5 hO5 hG5 hC5 hC6 hG6 hR6 hO6 hG6' hV7 hR7 hC7 hO7 hG7 hJ7
        go_wp2_with (at_builtin; fail)
        refine bodyPost_ret (v := .agg #[.int .i64 N, .int .i64 fr, .slice none 0 0]) ?_ rfl HD.out
        simp [results, Tryz.results56, go_sem, z0, z1, z2, r0, r1, r2]
      by_cases x1 : x = 1
      · subst x1
        have hba : ∀ o, Below w5.heap.size w5 (w5.alloc o) := fun o => (Below.refl _ _).alloc (Nat.le_refl _) _
        have hlt5 := hC5.lt
        have y0 := hV5.c0
        have y1 := hV5.c1
        go_wp2_with (at_builtin; fail)
        refine (int_ w0 _ gc a len cap code w5.heap.size 4 4 _ _ (hC5.below (hba _)) (heap_alloc_new w5 _) rfl (by omega) (by omega) (by omega) (fun z => -1 ≤ z ∧ z ≤ 61) ?_).mono ?_
        · intro i hi
          match i, hi with
          | 0, _ => exact ⟨_, rfl, by omega⟩
          | 1, _ => exact ⟨_, rfl, by omega⟩
          | 2, _ => exact ⟨_, rfl, by omega⟩
          | 3, _ => exact ⟨_, rfl, by omega⟩
        rintro e w6 ⟨N, hN, rfl, hC6, hG6⟩
        have hV6 := v3_grown (hV5.below (hba _)) hG6 (by simp; omega)
        have hR6 := v3_grown (hR5.below (hba _)) hG6 (by simp; omega)
        have hO6 := (hO5.below (hba _)).grown hG6 (fun e => by have := (hO5.lt _ e).1; omega)
        have hG6' := grownBy_trans (grown_below hG5 (hba _)) hG6
        obtain ⟨w7, hw7⟩ : ∃ w7, w6.setCell ⟨w.heap.size, 1, none⟩ (.int .i64 N) = w7 := ⟨_, rfl⟩
        have hV7 := (v3_set hV6).2.1 (.int .i64 N)
        rw [hw7] at hV7
        have hR7 := v3_grown hR6 hV7.2 (by simp)
        have hC7 := hC6.grown hV7.2 (by simp; omega) (fun k e => by cases e; omega)
        have hO7 := hO6.grown hV7.2 (fun e => by have := (hO6.lt _ e).1; omega)
        have hG7 := grown_own hG6' hV7.2 (Nat.le_refl _)
        have hVz := hV7.1
        have y0 := hV6.c0
        have y1 := hV6.c1
        have p0 := v3_fz hV6 1
        have hJ7 := hO7.slJ (by omega) (fun x hx => (htI x hx).lim)
        have z0 := hVz.c0
        have z1 := hVz.c1
        have z2 := hVz.c2
        have r0 := hR7.c0
        have r1 := hR7.c1
        have r2 := hR7.c2
        have q0 := v3_fz hR7 0
        have q1 := v3_fz hR7 1
        have q2 := v3_fz hR7 2
        have HD := Hid.mk' (bend_done (w := w) (N := n) (FR := N) (sc := 0) hC7 hR7 hG7 hJ7 ⟨by omega, by omega⟩ (by omega) htI (Nat.le_succ _) (by omega))
        clear hV5 hR5 hO5 hG5 hC5 hC6 hG6 hR6 hO6 hG6' hV7 hR7 hC7 hO7 hG7 hJ7
        go_wp2_with (at_builtin; fail)
        refine bodyPost_ret (v := .agg #[.int .i64 n, .int .i64 N, .slice none 0 0]) ?_ rfl HD.out
        simp [results, Tryz.results56, go_sem, z0, z1, z2, r0, r1, r2]
      by_cases x2 : x = 2
      · subst x2
        have y2 := hV5.c2
        have p2 := v3_fz hV5 2
        obtain ⟨w7, hw7⟩ : ∃ w7, w5.setCell ⟨w.heap.size, 2, none⟩ (.slice none 0 0) = w7 := ⟨_, rfl⟩
        have hV7 := (v3_set hV5).2.2 (.slice none 0 0)
        rw [hw7] at hV7
        have hR7 := v3_grown hR5 hV7.2 (by simp)
        have hC7 := hC5.grown hV7.2 (by simp; omega) (fun k e => by cases e; omega)
        have hG7 := grown_own hG5 hV7.2 (Nat.le_refl _)
        have hJ7 := slJ_nil w7 none
        have hVz := hV7.1
        have z0 := hVz.c0
        have z1 := hVz.c1
        have z2 := hVz.c2
        have r0 := hR7.c0
        have r1 := hR7.c1
        have r2 := hR7.c2
        have q0 := v3_fz hR7 0
        have q1 := v3_fz hR7 1
        have q2 := v3_fz hR7 2
        have HD := Hid.mk' (bend_done (w := w) (N := n) (FR := fr) (sc := 0) hC7 hR7 hG7 hJ7 ⟨by omega, by omega⟩ (by omega) htI (Nat.le_succ _) (by omega))
        clear hV5 hR5 hO5 hG5 hC5 hV7 hR7 hC7 hG7 hJ7
        go_wp2_with (at_builtin; fail)
        refine bodyPost_ret (v := .agg #[.int .i64 n, .int .i64 fr, .slice none 0 0]) ?_ rfl HD.out
        simp [results, Tryz.results56, go_sem, z0, z1, z2, r0, r1, r2]
      by_cases x3 : x = 3
      · subst x3
        have y2 := hV5.c2
        have p2 := v3_fz hV5 2
        obtain ⟨w7, hw7⟩ : ∃ w7, w5.setCell ⟨w.heap.size, 2, none⟩ (.slice none 0 0) = w7 := ⟨_, rfl⟩
        have hV7 := (v3_set hV5).2.2 (.slice none 0 0)
        rw [hw7] at hV7
        have hR7 := v3_grown hR5 hV7.2 (by simp)
        have hC7 := hC5.grown hV7.2 (by simp; omega) (fun k e => by cases e; omega)
        have hG7 := grown_own hG5 hV7.2 (Nat.le_refl _)
        have hJ7 := slJ_nil w7 none
        have hVz := hV7.1
        have z0 := hVz.c0
        have z1 := hVz.c1
        have z2 := hVz.c2
        have r0 := hR7.c0
        have r1 := hR7.c1
        have r2 := hR7.c2
        have q0 := v3_fz hR7 0
        have q1 := v3_fz hR7 1
        have q2 := v3_fz hR7 2
        have HD := Hid.mk' (bend_done (w := w) (N := n) (FR := fr) (sc := 0) hC7 hR7 hG7 hJ7 ⟨by omega, by omega⟩ (by omega) htI (Nat.le_succ _) (by omega))
        clear hV5 hR5 hO5 hG5 hC5 hV7 hR7 hC7 hG7 hJ7
        go_wp2_with (at_builtin; fail)
        refine bodyPost_ret (v := .agg #[.int .i64 n, .int .i64 fr, .slice none 0 0]) ?_ rfl HD.out
        simp [results, Tryz.results56, go_sem, z0, z1, z2, r0, r1, r2]
      by_cases x4 : x = 4
      · subst x4
        have y2 := hV5.c2
        have hJ5 := slJ_nil w5 none
        have z0 := hV5.c0
        have z1 := hV5.c1
        have z2 := hV5.c2
        have r0 := hR5.c0
        have r1 := hR5.c1
        have r2 := hR5.c2
        have q0 := v3_fz hR5 0
        have q1 := v3_fz hR5 1
        have q2 := v3_fz hR5 2
        have HD := Hid.mk' (bend_done (w := w) (N := n) (FR := fr) (sc := 0) hC5 hR5 hG5 hJ5 ⟨by omega, by omega⟩ (by omega) htI (Nat.le_succ _) (by omega))
        clear hJ5
        go_wp2_with (at_builtin; fail)
        refine bodyPost_ret (v := .agg #[.int .i64 n, .int .i64 fr, .slice none 0 0]) ?_ rfl HD.out
        simp [results, Tryz.results56, go_sem, z0, z1, z2, r0, r1, r2]
      by_cases x5 : x = 5
      · subst x5
        have y2 := hV5.c2
        have hJ5 := slJ_nil w5 none
        have z0 := hV5.c0
        have z1 := hV5.c1
        have z2 := hV5.c2
        have r0 := hR5.c0
        have r1 := hR5.c1
        have r2 := hR5.c2
        have q0 := v3_fz hR5 0
        have q1 := v3_fz hR5 1
        have q2 := v3_fz hR5 2
        have HD := Hid.mk' (bend_done (w := w) (N := n) (FR := fr) (sc := 0) hC5 hR5 hG5 hJ5 ⟨by omega, by omega⟩ (by omega) htI (Nat.le_succ _) (by omega))
        clear hJ5
        go_wp2_with (at_builtin; fail)
        refine bodyPost_ret (v := .agg #[.int .i64 n, .int .i64 fr, .slice none 0 0]) ?_ rfl HD.out
        simp [results, Tryz.results56, go_sem, z0, z1, z2, r0, r1, r2]
      by_cases x6 : x = 6
      · subst x6
        have y2 := hV5.c2
        have hJ5 := slJ_nil w5 none
        have z0 := hV5.c0
        have z1 := hV5.c1
        have z2 := hV5.c2
        have r0 := hR5.c0
        have r1 := hR5.c1
        have r2 := hR5.c2
        have q0 := v3_fz hR5 0
        have q1 := v3_fz hR5 1
        have q2 := v3_fz hR5 2
        have HD := Hid.mk' (bend_done (w := w) (N := n) (FR := fr) (sc := 0) hC5 hR5 hG5 hJ5 ⟨by omega, by omega⟩ (by omega) htI (Nat.le_succ _) (by omega))
        clear hJ5
        go_wp2_with (at_builtin; fail)
        refine bodyPost_ret (v := .agg #[.int .i64 n, .int .i64 fr, .slice none 0 0]) ?_ rfl HD.out
        simp [results, Tryz.results56, go_sem, z0, z1, z2, r0, r1, r2]
      have n0 : ((x : Int) == 0) = false := by rw [beq_eq_false_iff_ne]; omega
      have n1 : ((x : Int) == 1) = false := by rw [beq_eq_false_iff_ne]; omega
      have n2 : ((x : Int) == 2) = false := by rw [beq_eq_false_iff_ne]; omega
      have n3 : ((x : Int) == 3) = false := by rw [beq_eq_false_iff_ne]; omega
      have n4 : ((x : Int) == 4) = false := by rw [beq_eq_false_iff_ne]; omega
      have n5 : ((x : Int) == 5) = false := by rw [beq_eq_false_iff_ne]; omega
      have n6 : ((x : Int) == 6) = false := by rw [beq_eq_false_iff_ne]; omega
      have hJ5 := slJ_nil w5 none
      have z0 := hV5.c0
      have z1 := hV5.c1
      have z2 := hV5.c2
      have r0 := hR5.c0
      have r1 := hR5.c1
      have r2 := hR5.c2
      have q0 := v3_fz hR5 0
      have q1 := v3_fz hR5 1
      have q2 := v3_fz hR5 2
      have HD := Hid.mk' (bend_done (w := w) (N := n) (FR := fr) (sc := 0) hC5 hR5 hG5 hJ5 ⟨by omega, by omega⟩ (by omega) htI (Nat.le_succ _) (by omega))
      clear hJ5
      go_wp2_with (at_builtin; fail)
      refine bodyPost_ret (v := .agg #[.int .i64 n, .int .i64 fr, .slice none 0 0]) ?_ rfl HD.out
      simp [results, Tryz.results56, go_sem, z0, z1, z2, r0, r1, r2]
    · have e8 : sa = some ⟨g, 0, none⟩ ∧ sc = cg := by simpa using e9
      obtain ⟨rfl, rfl⟩ := e8
      clear e9
      by_cases x0 : x = 0
      · subst x0
        have hba : ∀ o, Below w5.heap.size w5 (w5.alloc o) := fun o => (Below.refl _ _).alloc (Nat.le_refl _) _
        have hlt5 := hC5.lt
        have y0 := hV5.c0
        have y1 := hV5.c1
        go_wp2_with (at_builtin; fail)
        refine (int_ w0 _ gc a len cap code w5.heap.size 5 5 _ _ (hC5.below (hba _)) (heap_alloc_new w5 _) rfl (by omega) (by omega) (by omega) (fun z => -1 ≤ z ∧ z ≤ 61) ?_).mono ?_
        · intro i hi
          match i, hi with
          | 0, _ => exact ⟨_, rfl, by omega⟩
          | 1, _ => exact ⟨_, rfl, by omega⟩
          | 2, _ => exact ⟨_, rfl, by omega⟩
          | 3, _ => exact ⟨_, rfl, by omega⟩
          | 4, _ => exact ⟨_, rfl, by omega⟩
        rintro e w6 ⟨N, hN, rfl, hC6, hG6⟩
        have hV6 := v3_grown (hV5.below (hba _)) hG6 (by simp; omega)
        have hR6 := v3_grown (hR5.below (hba _)) hG6 (by simp; omega)
        have hO6 := (hO5.below (hba _)).grown hG6 (fun e => by have := (hO5.lt _ e).1; omega)
        have hG6' := grownBy_trans (grown_below hG5 (hba _)) hG6
        obtain ⟨w7, hw7⟩ : ∃ w7, w6.setCell ⟨w.heap.size, 0, none⟩ (.int .i64 N) = w7 := ⟨_, rfl⟩
        have hV7 := (v3_set hV6).1 (.int .i64 N)
        rw [hw7] at hV7
        have hR7 := v3_grown hR6 hV7.2 (by simp)
        have hC7 := hC6.grown hV7.2 (by simp; omega) (fun k e => by cases e; omega)
        have hO7 := hO6.grown hV7.2 (fun e => by have := (hO6.lt _ e).1; omega)
        have hG7 := grown_own hG6' hV7.2 (Nat.le_refl _)
        have hVz := hV7.1
        have y0 := hV6.c0
        have y1 := hV6.c1
        have p0 := v3_fz hV6 0
        have hJ7 := hO7.slJ (by omega) (fun x hx => (htI x hx).lim)
        have z0 := hVz.c0
        have z1 := hVz.c1
        have z2 := hVz.c2
        have r0 := hR7.c0
        have r1 := hR7.c1
        have r2 := hR7.c2
        have q0 := v3_fz hR7 0
        have q1 := v3_fz hR7 1
        have q2 := v3_fz hR7 2
        have HD := Hid.mk' (bend_done (w := w) (N := N) (FR := fr) (sc := sc) hC7 hR7 hG7 hJ7 ⟨by omega, by omega⟩ (by omega) htI (Nat.le_succ _) (by omega))
        clear hV5 hR5 hO5 hG5 hC5 hC6 hG6 hR6 hO6 hG6' hV7 hR7 hC7 hO7 hG7 hJ7
        go_wp2_with (at_builtin; fail)
        refine bodyPost_ret (v := .agg #[.int .i64 N, .int .i64 fr, .slice (some ⟨g, 0, none⟩) 0 sc]) ?_ rfl HD.out
        simp [results, Tryz.results56, go_sem, z0, z1, z2, r0, r1, r2]
      by_cases x1 : x = 1
      · subst x1
        have hba : ∀ o, Below w5.heap.size w5 (w5.alloc o) := fun o => (Below.refl _ _).alloc (Nat.le_refl _) _
        have hlt5 := hC5.lt
        have y0 := hV5.c0
        have y1 := hV5.c1
        go_wp2_with (at_builtin; fail)
        refine (int_ w0 _ gc a len cap code w5.heap.size 4 4 _ _ (hC5.below (hba _)) (heap_alloc_new w5 _) rfl (by omega) (by omega) (by omega) (fun z => -1 ≤ z ∧ z ≤ 61) ?_).mono ?_
        · intro i hi
          match i, hi with
          | 0, _ => exact ⟨_, rfl, by omega⟩
          | 1, _ => exact ⟨_, rfl, by omega⟩
          | 2, _ => exact ⟨_, rfl, by omega⟩
          | 3, _ => exact ⟨_, rfl, by omega⟩
        rintro e w6 ⟨N, hN, rfl, hC6, hG6⟩
        have hV6 := v3_grown (hV5.below (hba _)) hG6 (by simp; omega)
        have hR6 := v3_grown (hR5.below (hba _)) hG6 (by simp; omega)
        have hO6 := (hO5.below (hba _)).grown hG6 (fun e => by have := (hO5.lt _ e).1; omega)
        have hG6' := grownBy_trans (grown_below hG5 (hba _)) hG6
        obtain ⟨w7, hw7⟩ : ∃ w7, w6.setCell ⟨w.heap.size, 1, none⟩ (.int .i64 N) = w7 := ⟨_, rfl⟩
        have hV7 := (v3_set hV6).2.1 (.int .i64 N)
        rw [hw7] at hV7
        have hR7 := v3_grown hR6 hV7.2 (by simp)
        have hC7 := hC6.grown hV7.2 (by simp; omega) (fun k e => by cases e; omega)
        have hO7 := hO6.grown hV7.2 (fun e => by have := (hO6.lt _ e).1; omega)
        have hG7 := grown_own hG6' hV7.2 (Nat.le_refl _)
        have hVz := hV7.1
        have y0 := hV6.c0
        have y1 := hV6.c1
        have p0 := v3_fz hV6 1
        have hJ7 := hO7.slJ (by omega) (fun x hx => (htI x hx).lim)
        have z0 := hVz.c0
        have z1 := hVz.c1
        have z2 := hVz.c2
        have r0 := hR7.c0
        have r1 := hR7.c1
        have r2 := hR7.c2
        have q0 := v3_fz hR7 0
        have q1 := v3_fz hR7 1
        have q2 := v3_fz hR7 2
        have HD := Hid.mk' (bend_done (w := w) (N := n) (FR := N) (sc := sc) hC7 hR7 hG7 hJ7 ⟨by omega, by omega⟩ (by omega) htI (Nat.le_succ _) (by omega))
        clear hV5 hR5 hO5 hG5 hC5 hC6 hG6 hR6 hO6 hG6' hV7 hR7 hC7 hO7 hG7 hJ7
        go_wp2_with (at_builtin; fail)
        refine bodyPost_ret (v := .agg #[.int .i64 n, .int .i64 N, .slice (some ⟨g, 0, none⟩) 0 sc]) ?_ rfl HD.out
        simp [results, Tryz.results56, go_sem, z0, z1, z2, r0, r1, r2]
      by_cases x2 : x = 2
      · subst x2
        have y2 := hV5.c2
        have p2 := v3_fz hV5 2
        obtain ⟨w7, hw7⟩ : ∃ w7, w5.setCell ⟨w.heap.size, 2, none⟩ (.slice (some ⟨g, 0, none⟩) 0 sc) = w7 := ⟨_, rfl⟩
        have hV7 := (v3_set hV5).2.2 (.slice (some ⟨g, 0, none⟩) 0 sc)
        rw [hw7] at hV7
        have hR7 := v3_grown hR5 hV7.2 (by simp)
        have hC7 := hC5.grown hV7.2 (by simp; omega) (fun k e => by cases e; omega)
        have hG7 := grown_own hG5 hV7.2 (Nat.le_refl _)
        have hJ7 := slJ_nil w7 (some ⟨g, 0, none⟩)
        have hVz := hV7.1
        have z0 := hVz.c0
        have z1 := hVz.c1
        have z2 := hVz.c2
        have r0 := hR7.c0
        have r1 := hR7.c1
        have r2 := hR7.c2
        have q0 := v3_fz hR7 0
        have q1 := v3_fz hR7 1
        have q2 := v3_fz hR7 2
        have HD := Hid.mk' (bend_done (w := w) (N := n) (FR := fr) (sc := sc) hC7 hR7 hG7 hJ7 ⟨by omega, by omega⟩ (by omega) htI (Nat.le_succ _) (by omega))
        clear hV5 hR5 hO5 hG5 hC5 hV7 hR7 hC7 hG7 hJ7
        go_wp2_with (at_builtin; fail)
        refine bodyPost_ret (v := .agg #[.int .i64 n, .int .i64 fr, .slice (some ⟨g, 0, none⟩) 0 sc]) ?_ rfl HD.out
        simp [results, Tryz.results56, go_sem, z0, z1, z2, r0, r1, r2]
      by_cases x3 : x = 3
      · subst x3
        have y2 := hV5.c2
        have p2 := v3_fz hV5 2
        obtain ⟨w7, hw7⟩ : ∃ w7, w5.setCell ⟨w.heap.size, 2, none⟩ (.slice (some ⟨g, 0, none⟩) 0 sc) = w7 := ⟨_, rfl⟩
        have hV7 := (v3_set hV5).2.2 (.slice (some ⟨g, 0, none⟩) 0 sc)
        rw [hw7] at hV7
        have hR7 := v3_grown hR5 hV7.2 (by simp)
        have hC7 := hC5.grown hV7.2 (by simp; omega) (fun k e => by cases e; omega)
        have hG7 := grown_own hG5 hV7.2 (Nat.le_refl _)
        have hJ7 := slJ_nil w7 (some ⟨g, 0, none⟩)
        have hVz := hV7.1
        have z0 := hVz.c0
        have z1 := hVz.c1
        have z2 := hVz.c2
        have r0 := hR7.c0
        have r1 := hR7.c1
        have r2 := hR7.c2
        have q0 := v3_fz hR7 0
        have q1 := v3_fz hR7 1
        have q2 := v3_fz hR7 2
        have HD := Hid.mk' (bend_done (w := w) (N := n) (FR := fr) (sc := sc) hC7 hR7 hG7 hJ7 ⟨by omega, by omega⟩ (by omega) htI (Nat.le_succ _) (by omega))
        clear hV5 hR5 hO5 hG5 hC5 hV7 hR7 hC7 hG7 hJ7
        go_wp2_with (at_builtin; fail)
        refine bodyPost_ret (v := .agg #[.int .i64 n, .int .i64 fr, .slice (some ⟨g, 0, none⟩) 0 sc]) ?_ rfl HD.out
        simp [results, Tryz.results56, go_sem, z0, z1, z2, r0, r1, r2]
      by_cases x4 : x = 4
      · subst x4
        have y2 := hV5.c2
        have hJ5 := slJ_nil w5 (some ⟨g, 0, none⟩)
        have z0 := hV5.c0
        have z1 := hV5.c1
        have z2 := hV5.c2
        have r0 := hR5.c0
        have r1 := hR5.c1
        have r2 := hR5.c2
        have q0 := v3_fz hR5 0
        have q1 := v3_fz hR5 1
        have q2 := v3_fz hR5 2
        have HD := Hid.mk' (bend_done (w := w) (N := n) (FR := fr) (sc := sc) hC5 hR5 hG5 hJ5 ⟨by omega, by omega⟩ (by omega) htI (Nat.le_succ _) (by omega))
        clear hJ5
        go_wp2_with (at_builtin; fail)
        refine bodyPost_ret (v := .agg #[.int .i64 n, .int .i64 fr, .slice (some ⟨g, 0, none⟩) 0 sc]) ?_ rfl HD.out
        simp [results, Tryz.results56, go_sem, z0, z1, z2, r0, r1, r2]
      by_cases x5 : x = 5
      · subst x5
        have y2 := hV5.c2
        have hJ5 := slJ_nil w5 (some ⟨g, 0, none⟩)
        have z0 := hV5.c0
        have z1 := hV5.c1
        have z2 := hV5.c2
        have r0 := hR5.c0
        have r1 := hR5.c1
        have r2 := hR5.c2
        have q0 := v3_fz hR5 0
        have q1 := v3_fz hR5 1
        have q2 := v3_fz hR5 2
        have HD := Hid.mk' (bend_done (w := w) (N := n) (FR := fr) (sc := sc) hC5 hR5 hG5 hJ5 ⟨by omega, by omega⟩ (by omega) htI (Nat.le_succ _) (by omega))
        clear hJ5
        go_wp2_with (at_builtin; fail)
        refine bodyPost_ret (v := .agg #[.int .i64 n, .int .i64 fr, .slice (some ⟨g, 0, none⟩) 0 sc]) ?_ rfl HD.out
        simp [results, Tryz.results56, go_sem, z0, z1, z2, r0, r1, r2]
      by_cases x6 : x = 6
      · subst x6
        have y2 := hV5.c2
        have hJ5 := slJ_nil w5 (some ⟨g, 0, none⟩)
        have z0 := hV5.c0
        have z1 := hV5.c1
        have z2 := hV5.c2
        have r0 := hR5.c0
        have r1 := hR5.c1
        have r2 := hR5.c2
        have q0 := v3_fz hR5 0
        have q1 := v3_fz hR5 1
        have q2 := v3_fz hR5 2
        have HD := Hid.mk' (bend_done (w := w) (N := n) (FR := fr) (sc := sc) hC5 hR5 hG5 hJ5 ⟨by omega, by omega⟩ (by omega) htI (Nat.le_succ _) (by omega))
        clear hJ5
        go_wp2_with (at_builtin; fail)
        refine bodyPost_ret (v := .agg #[.int .i64 n, .int .i64 fr, .slice (some ⟨g, 0, none⟩) 0 sc]) ?_ rfl HD.out
        simp [results, Tryz.results56, go_sem, z0, z1, z2, r0, r1, r2]
      have n0 : ((x : Int) == 0) = false := by rw [beq_eq_false_iff_ne]; omega
      have n1 : ((x : Int) == 1) = false := by rw [beq_eq_false_iff_ne]; omega
      have n2 : ((x : Int) == 2) = false := by rw [beq_eq_false_iff_ne]; omega
      have n3 : ((x : Int) == 3) = false := by rw [beq_eq_false_iff_ne]; omega
      have n4 : ((x : Int) == 4) = false := by rw [beq_eq_false_iff_ne]; omega
      have n5 : ((x : Int) == 5) = false := by rw [beq_eq_false_iff_ne]; omega
      have n6 : ((x : Int) == 6) = false := by rw [beq_eq_false_iff_ne]; omega
      have hJ5 := slJ_nil w5 (some ⟨g, 0, none⟩)
      have z0 := hV5.c0
      have z1 := hV5.c1
      have z2 := hV5.c2
      have r0 := hR5.c0
      have r1 := hR5.c1
      have r2 := hR5.c2
      have q0 := v3_fz hR5 0
      have q1 := v3_fz hR5 1
      have q2 := v3_fz hR5 2
      have HD := Hid.mk' (bend_done (w := w) (N := n) (FR := fr) (sc := sc) hC5 hR5 hG5 hJ5 ⟨by omega, by omega⟩ (by omega) htI (Nat.le_succ _) (by omega))
      clear hJ5
      go_wp2_with (at_builtin; fail)
      refine bodyPost_ret (v := .agg #[.int .i64 n, .int .i64 fr, .slice (some ⟨g, 0, none⟩) 0 sc]) ?_ rfl HD.out
      simp [results, Tryz.results56, go_sem, z0, z1, z2, r0, r1, r2]
  · have hpos : 0 < its.length := List.length_pos_iff.2 hne
    have hposi : (0 : Int) < (its.length : Int) := by omega
    obtain ⟨g, hsa, hcg⟩ : ∃ g, sa = some ⟨g, 0, none⟩ ∧ its.length ≤ sc := by
      rcases HO.out.shape with ⟨e, e2, _⟩ | ⟨g, cg, e, h1, _⟩
      · exact absurd e2 hne
      · cases e; exact ⟨g, rfl, h1⟩
    subst hsa
    go_wp2_with (at_builtin; fail)
    rw [HW3.out]
    clear HW3 t0 t1 t2 f0 f1 f2
    refine (below_ w0 _ gc a len cap code _ hC3 (by omega) (by omega)).mono ?_
    rintro e w4 ⟨k, hk, rfl, hC4, hG4⟩
    have hV4 := v3_grown HV.out hG4 (by simp; omega)
    have hR4 := v3_grown HR.out hG4 (by simp; omega)
    have hO4 := HO.out.grown hG4 (fun e => by have := (HO.out.lt _ e).1; omega)
    have hG4' := grownBy_trans HG.out hG4
    have HV4 := Hid.mk' hV4
    have HR4 := Hid.mk' hR4
    have HO4 := Hid.mk' hO4
    have HG4 := Hid.mk' hG4'
    clear HV HR HO HG hC3 g0 g1 g2 hV4 hR4 hO4 hG4 hG4'
    go_wp2_with (at_builtin; fail)
    refine (below_ w0 _ gc a len cap code _ hC4 (by omega) (by omega)).mono ?_
    rintro e w5 ⟨x, hx, rfl, hC5, hG5'⟩
    have hV5 := v3_grown HV4.out hG5' (by simp; omega)
    have hR5 := v3_grown HR4.out hG5' (by simp; omega)
    have hO5 := HO4.out.grown hG5' (fun e => by have := (HO4.out.lt _ e).1; omega)
    have hG5 := grownBy_trans HG4.out hG5'
    clear HV4 HR4 HO4 HG4 hC4 hG5'
    by_cases x0 : x = 0
    · subst x0
      have hba : ∀ o, Below w5.heap.size w5 (w5.alloc o) := fun o => (Below.refl _ _).alloc (Nat.le_refl _) _
      have hlt5 := hC5.lt
      have y0 := hV5.c0
      have y1 := hV5.c1
      go_wp2_with (at_builtin; fail)
      refine (int_ w0 _ gc a len cap code w5.heap.size 5 5 _ _ (hC5.below (hba _)) (heap_alloc_new w5 _) rfl (by omega) (by omega) (by omega) (fun z => -1 ≤ z ∧ z ≤ 61) ?_).mono ?_
      · intro i hi
        match i, hi with
        | 0, _ => exact ⟨_, rfl, by omega⟩
        | 1, _ => exact ⟨_, rfl, by omega⟩
        | 2, _ => exact ⟨_, rfl, by omega⟩
        | 3, _ => exact ⟨_, rfl, by omega⟩
        | 4, _ => exact ⟨_, rfl, by omega⟩
      rintro e w6 ⟨N, hN, rfl, hC6, hG6⟩
      have hV6 := v3_grown (hV5.below (hba _)) hG6 (by simp; omega)
      have hR6 := v3_grown (hR5.below (hba _)) hG6 (by simp; omega)
      have hO6 := (hO5.below (hba _)).grown hG6 (fun e => by have := (hO5.lt _ e).1; omega)
      have hG6' := grownBy_trans (grown_below hG5 (hba _)) hG6
      obtain ⟨w7, hw7⟩ : ∃ w7, w6.setCell ⟨w.heap.size, 0, none⟩ (.int .i64 N) = w7 := ⟨_, rfl⟩
      have hV7 := (v3_set hV6).1 (.int .i64 N)
      rw [hw7] at hV7
      have hR7 := v3_grown hR6 hV7.2 (by simp)
      have hC7 := hC6.grown hV7.2 (by simp; omega) (fun k e => by cases e; omega)
      have hO7 := hO6.grown hV7.2 (fun e => by have := (hO6.lt _ e).1; omega)
      have hG7 := grown_own hG6' hV7.2 (Nat.le_refl _)
      have hVz := hV7.1
      have y0 := hV6.c0
      have y1 := hV6.c1
      have p0 := v3_fz hV6 0
      have hJ7 := hO7.slJ (by omega) (fun x hx => (htI x hx).lim)
      have z0 := hVz.c0
      have z1 := hVz.c1
      have z2 := hVz.c2
      have r0 := hR7.c0
      have r1 := hR7.c1
      have r2 := hR7.c2
      have q0 := v3_fz hR7 0
      have q1 := v3_fz hR7 1
      have q2 := v3_fz hR7 2
      have HD := Hid.mk' (bend_done (w := w) (N := N) (FR := fr) (sc := sc) hC7 hR7 hG7 hJ7 ⟨by omega, by omega⟩ (by omega) htI (Nat.le_succ _) (by omega))
      clear hV5 hR5 hO5 hG5 hC5 hC6 hG6 hR6 hO6 hG6' hV7 hR7 hC7 hO7 hG7 hJ7
      go_wp2_with (at_builtin; fail)
      refine bodyPost_ret (v := .agg #[.int .i64 N, .int .i64 fr, .slice (some ⟨g, 0, none⟩) its.length sc]) ?_ rfl HD.out
      simp [results, Tryz.results56, go_sem, z0, z1, z2, r0, r1, r2]
    by_cases x1 : x = 1
    · subst x1
      have hba : ∀ o, Below w5.heap.size w5 (w5.alloc o) := fun o => (Below.refl _ _).alloc (Nat.le_refl _) _
      have hlt5 := hC5.lt
      have y0 := hV5.c0
      have y1 := hV5.c1
      go_wp2_with (at_builtin; fail)
      refine (int_ w0 _ gc a len cap code w5.heap.size 4 4 _ _ (hC5.below (hba _)) (heap_alloc_new w5 _) rfl (by omega) (by omega) (by omega) (fun z => -1 ≤ z ∧ z ≤ 61) ?_).mono ?_
      · intro i hi
        match i, hi with
        | 0, _ => exact ⟨_, rfl, by omega⟩
        | 1, _ => exact ⟨_, rfl, by omega⟩
        | 2, _ => exact ⟨_, rfl, by omega⟩
        | 3, _ => exact ⟨_, rfl, by omega⟩
      rintro e w6 ⟨N, hN, rfl, hC6, hG6⟩
      have hV6 := v3_grown (hV5.below (hba _)) hG6 (by simp; omega)
      have hR6 := v3_grown (hR5.below (hba _)) hG6 (by simp; omega)
      have hO6 := (hO5.below (hba _)).grown hG6 (fun e => by have := (hO5.lt _ e).1; omega)
      have hG6' := grownBy_trans (grown_below hG5 (hba _)) hG6
      obtain ⟨w7, hw7⟩ : ∃ w7, w6.setCell ⟨w.heap.size, 1, none⟩ (.int .i64 N) = w7 := ⟨_, rfl⟩
      have hV7 := (v3_set hV6).2.1 (.int .i64 N)
      rw [hw7] at hV7
      have hR7 := v3_grown hR6 hV7.2 (by simp)
      have hC7 := hC6.grown hV7.2 (by simp; omega) (fun k e => by cases e; omega)
      have hO7 := hO6.grown hV7.2 (fun e => by have := (hO6.lt _ e).1; omega)
      have hG7 := grown_own hG6' hV7.2 (Nat.le_refl _)
      have hVz := hV7.1
      have y0 := hV6.c0
      have y1 := hV6.c1
      have p0 := v3_fz hV6 1
      have hJ7 := hO7.slJ (by omega) (fun x hx => (htI x hx).lim)
      have z0 := hVz.c0
      have z1 := hVz.c1
      have z2 := hVz.c2
      have r0 := hR7.c0
      have r1 := hR7.c1
      have r2 := hR7.c2
      have q0 := v3_fz hR7 0
      have q1 := v3_fz hR7 1
      have q2 := v3_fz hR7 2
      have HD := Hid.mk' (bend_done (w := w) (N := n) (FR := N) (sc := sc) hC7 hR7 hG7 hJ7 ⟨by omega, by omega⟩ (by omega) htI (Nat.le_succ _) (by omega))
      clear hV5 hR5 hO5 hG5 hC5 hC6 hG6 hR6 hO6 hG6' hV7 hR7 hC7 hO7 hG7 hJ7
      go_wp2_with (at_builtin; fail)
      refine bodyPost_ret (v := .agg #[.int .i64 n, .int .i64 N, .slice (some ⟨g, 0, none⟩) its.length sc]) ?_ rfl HD.out
      simp [results, Tryz.results56, go_sem, z0, z1, z2, r0, r1, r2]
    by_cases x2 : x = 2
    · subst x2
      have y2 := hV5.c2
      have p2 := v3_fz hV5 2
      have hk1 : (k : Int) ≤ (its.length : Int) := by omega
      have hk2 : (k : Int) ≤ (sc : Int) := by omega
      have hk3 : ¬ sc = k := by omega
      obtain ⟨w7, hw7⟩ : ∃ w7, w5.setCell ⟨w.heap.size, 2, none⟩ (.slice (some ⟨g, k * 3, none⟩) (its.length - k) (sc - k)) = w7 := ⟨_, rfl⟩
      have hV7 := (v3_set hV5).2.2 (.slice (some ⟨g, k * 3, none⟩) (its.length - k) (sc - k))
      rw [hw7] at hV7
      have hR7 := v3_grown hR5 hV7.2 (by simp)
      have hC7 := hC5.grown hV7.2 (by simp; omega) (fun k e => by cases e; omega)
      have hG7 := grown_own hG5 hV7.2 (Nat.le_refl _)
      have hJ7 := slJ_drop (k := k) (slJ_keep (hO5.slJ (by omega) (fun x hx => (htI x hx).lim)) hV5.noStr hV7.2)
      rw [Nat.zero_add] at hJ7
      have hVz := hV7.1
      have htz : ∀ x ∈ its.drop k, tinyI x := fun x hx => htI x (List.mem_of_mem_drop hx)
      have z0 := hVz.c0
      have z1 := hVz.c1
      have z2 := hVz.c2
      have r0 := hR7.c0
      have r1 := hR7.c1
      have r2 := hR7.c2
      have q0 := v3_fz hR7 0
      have q1 := v3_fz hR7 1
      have q2 := v3_fz hR7 2
      have HD := Hid.mk' (bend_done (w := w) (N := n) (FR := fr) (sc := (sc - k)) hC7 hR7 hG7 hJ7 ⟨by omega, by omega⟩ (by omega) htz (Nat.le_succ _) (by omega))
      clear hV5 hR5 hO5 hG5 hC5 hV7 hR7 hC7 hG7 hJ7
      go_wp2_with (at_builtin; fail)
      refine bodyPost_ret (v := .agg #[.int .i64 n, .int .i64 fr, .slice (some ⟨g, k * 3, none⟩) (its.length - k) (sc - k)]) ?_ rfl HD.out
      simp [results, Tryz.results56, go_sem, z0, z1, z2, r0, r1, r2]
    by_cases x3 : x = 3
    · subst x3
      have y2 := hV5.c2
      have p2 := v3_fz hV5 2
      have hk1 : (k : Int) ≤ (its.length : Int) := by omega
      have hk2 : (k : Int) ≤ (sc : Int) := by omega
      obtain ⟨w7, hw7⟩ : ∃ w7, w5.setCell ⟨w.heap.size, 2, none⟩ (.slice (some ⟨g, 0, none⟩) k sc) = w7 := ⟨_, rfl⟩
      have hV7 := (v3_set hV5).2.2 (.slice (some ⟨g, 0, none⟩) k sc)
      rw [hw7] at hV7
      have hR7 := v3_grown hR5 hV7.2 (by simp)
      have hC7 := hC5.grown hV7.2 (by simp; omega) (fun k e => by cases e; omega)
      have hG7 := grown_own hG5 hV7.2 (Nat.le_refl _)
      have hJ7 := slJ_take (k := k) (slJ_keep (hO5.slJ (by omega) (fun x hx => (htI x hx).lim)) hV5.noStr hV7.2) (by omega)
      have hVz := hV7.1
      have htz : ∀ x ∈ its.take k, tinyI x := fun x hx => htI x (List.mem_of_mem_take hx)
      have z0 := hVz.c0
      have z1 := hVz.c1
      have z2 := hVz.c2
      have r0 := hR7.c0
      have r1 := hR7.c1
      have r2 := hR7.c2
      have q0 := v3_fz hR7 0
      have q1 := v3_fz hR7 1
      have q2 := v3_fz hR7 2
      have HD := Hid.mk' (bend_done (w := w) (N := n) (FR := fr) (sc := sc) hC7 hR7 hG7 hJ7 ⟨by omega, by omega⟩ (by omega) htz (Nat.le_succ _) (by omega))
      clear hV5 hR5 hO5 hG5 hC5 hV7 hR7 hC7 hG7 hJ7
      go_wp2_with (at_builtin; fail)
      refine bodyPost_ret (v := .agg #[.int .i64 n, .int .i64 fr, .slice (some ⟨g, 0, none⟩) k sc]) ?_ rfl HD.out
      simp [results, Tryz.results56, go_sem, z0, z1, z2, r0, r1, r2]
    by_cases x4 : x = 4
    · subst x4
      have y2 := hV5.c2
      have hkl : k < its.length := by omega
      have hki : (k : Int) < (its.length : Int) := by omega
      have s1 := (hO5.at k hkl).2.1
      have s2 := hO5.frozen (k * 3 + 1)
      have R := hO5.setVal k hkl ⟨#[98, 101, 110, 116]⟩ (by decide)
      have hgg := (hO5.lt g (.inl rfl)).1
      obtain ⟨w7, hw7⟩ : ∃ w7, w5.setCell ⟨g, k * 3 + 1, none⟩ (.string ⟨#[98, 101, 110, 116]⟩) = w7 := ⟨_, rfl⟩
      rw [hw7] at R
      have hV7 := v3_grown hV5 R.2 (by simp; omega)
      have hR7 := v3_grown hR5 R.2 (by simp; omega)
      have hC7 := hC5.grown R.2 (by simp; omega) (fun k e => by cases e; omega)
      have hG7 := grown_own hG5 R.2 (by omega)
      have htz : ∀ x ∈ its.set k ((its[k].1.1, ⟨#[98, 101, 110, 116]⟩), its[k].2), tinyI x := fun x hx => by
        rcases List.mem_or_eq_of_mem_set hx with h1 | h1
        · exact htI x h1
        · have := htI _ (List.getElem_mem hkl)
          subst h1; exact ⟨⟨this.1.1, by show (⟨#[98, 101, 110, 116]⟩ : ByteArray).size ≤ 21; decide⟩, this.2⟩
      have hJ7 := R.1.slJ (by rw [List.length_set]; omega) (fun x hx => (htz x hx).lim)
      have z0 := hV7.c0
      have z1 := hV7.c1
      have z2 := hV7.c2
      have r0 := hR7.c0
      have r1 := hR7.c1
      have r2 := hR7.c2
      have q0 := v3_fz hR7 0
      have q1 := v3_fz hR7 1
      have q2 := v3_fz hR7 2
      have HD := Hid.mk' (bend_done (w := w) (N := n) (FR := fr) (sc := sc) hC7 hR7 hG7 hJ7 ⟨by omega, by omega⟩ (by omega) htz (Nat.le_succ _) (by omega))
      clear hV5 hR5 hO5 hG5 hC5 hV7 hR7 hC7 hG7 hJ7 R
      go_wp2_with (at_builtin; fail)
      refine bodyPost_ret (v := .agg #[.int .i64 n, .int .i64 fr, .slice (some ⟨g, 0, none⟩) its.length sc]) ?_ rfl HD.out
      simp [results, Tryz.results56, go_sem, z0, z1, z2, r0, r1, r2]
    by_cases x5 : x = 5
    · subst x5
      have hkl : k < its.length := by omega
      have hki : (k : Int) < (its.length : Int) := by omega
      have hkh : k < hs.length := by have := hO5.len; omega
      obtain ⟨s1, s2, s3⟩ := hO5.at k hkl
      have hPk := hO5.paths k hkl
      have htk := ht _ (List.getElem_mem hkl)
      have htz : ∀ x ∈ its.set k (its[k].1, its[k].2 ++ [(⟨#[120]⟩ : ByteArray)]), tinyI x := fun x hx => by
        rcases List.mem_or_eq_of_mem_set hx with h1 | h1
        · exact htI x h1
        · subst h1
          refine ⟨htk.1, by show (its[k].2 ++ [(⟨#[120]⟩ : ByteArray)]).length ≤ 61; rw [List.length_append]; have := htk.2.1; simp; omega, fun s hs9 => ?_⟩
          rcases List.mem_append.1 hs9 with h2 | h2
          · exact htk.2.2 s h2
          · rw [List.mem_singleton.1 h2]; decide
      have hgW := (hO5.lt g (.inl rfl)).1
      have hyW := (hO5.lt hs[k].1 (.inr ⟨_, List.getElem_mem hkh, rfl⟩))
      have hyg : hs[k].1 ≠ g := hO5.out g rfl _ (List.getElem_mem hkh)
      have hfz := hO5.frozen (k * 3 + 2)
      have hg5l := (hO5.lt g (.inl rfl)).2
      have hpl := hPk.1
      have hpls : its[k].2.length ≤ 60 := htk.2.1
      have hPsz : ∀ s ∈ its[k].2 ++ [(⟨#[120]⟩ : ByteArray)], s.size ≤ maxLen := fun s hs9 => by
        rcases List.mem_append.1 hs9 with h2 | h2
        · exact hPk.2.1 s h2
        · rw [List.mem_singleton.1 h2]; decide
      obtain ⟨y, hy⟩ : ∃ y, hs[k] = y := ⟨_, rfl⟩
      simp only [hy] at s3 hPk hyW hyg hpl
      have HNP2 : Hid (∀ (w2 w3 : World) (g' n' c' : Nat), Below w5.heap.size w5 w2 → w2.grownBy w3 (some y.1) → OwnS w3 (w.heap.size + 2) g' n' c' (its[k].2 ++ [(⟨#[120]⟩ : ByteArray)]) → SlJ (w3.setCell ⟨g, k * 3 + 2, none⟩ (.slice (some ⟨g', 0, none⟩) n' c')) (some ⟨g, 0, none⟩) its.length (its.set k (its[k].1, its[k].2 ++ [(⟨#[120]⟩ : ByteArray)])) ∧ w3.grownBy (w3.setCell ⟨g, k * 3 + 2, none⟩ (.slice (some ⟨g', 0, none⟩) n' c')) (some g)) := fun w2 w3 g' n' c' hb hg hO => own_newPath hO5 k hkl hkh hb (by rw [hy]; exact hg) hO (by omega) htz
      clear hy htk
      generalize its.set k (its[k].1, its[k].2 ++ [(⟨#[120]⟩ : ByteArray)]) = L9 at *
      generalize its[k].2 = P at *
      obtain ⟨yg, yn, yc⟩ := y
      simp only [] at s3 hPk hyW hyg hpl HNP2
      have hS0 : V3 w5.drew w.heap.size 64 (.int .i64 n) (.int .i64 fr) (.slice (some ⟨g, 0, none⟩) its.length sc) ∧ w5.drew.cell? ⟨g, k * 3 + 2, none⟩ = some (.slice (some ⟨yg, 0, none⟩) yn yc) := ⟨hV5, s3⟩
      have hd : Below w5.heap.size w5 w5.drew := (Below.refl _ _).drew
      have y2 := hV5.c2
      have hc3 : yn + 1 ≤ maxLen := by unfold maxLen; omega
      have hc4 : (yn + 1) * 16 ≤ 140737488355328 := by omega
      have HV5 := Hid.mk' hV5
      have HR5 := Hid.mk' hR5
      have HPk := Hid.mk' hPk
      clear s1 s2 s3 hO5 hV5 hR5 hPk
      go_wp2_with (at_builtin; fail)
      refine last.wp_region_later (S := fun w' => V3 w' w.heap.size 64 (.int .i64 n) (.int .i64 fr) (.slice (some ⟨g, 0, none⟩) its.length sc) ∧ w'.cell? ⟨g, k * 3 + 2, none⟩ = some (.slice (some ⟨yg, 0, none⟩) yn yc)) 13 (by kernel_rfl) hS0 (fun hHeld => ?_)
      refine last.wpAnyL_take (i := 0) (v := (.pointer (some ⟨w.heap.size, 2, none⟩))) rfl rfl (by kernel_rfl) (by kernel_rfl) (by kernel_rfl) (by kernel_rfl) (fun _ _ _ h => h) (Or.inl ⟨by rfl, ?_⟩) (by assumption) ?_
      · intro wq hSq; go_simp
      try simp only [Act.put, List.setIfInBounds_toArray, List.set_cons_zero, List.set_cons_succ]
      refine last.wpAnyL_take (i := 1) (v := (.slice (some ⟨g, 0, none⟩) its.length sc)) rfl rfl (by kernel_rfl) (by kernel_rfl) (by kernel_rfl) (by kernel_rfl) (fun _ _ _ h => h) (Or.inl ⟨by rfl, ?_⟩) (by assumption) ?_
      · intro wq hSq; have q := hSq.1.c2; go_simp
      try simp only [Act.put, List.setIfInBounds_toArray, List.set_cons_zero, List.set_cons_succ]
      refine last.wpAnyL_take (i := 2) (v := (.int .i64 (k : Int))) rfl rfl (by kernel_rfl) (by kernel_rfl) (by kernel_rfl) (by kernel_rfl) (fun _ _ _ h => h) (Or.inl ⟨by rfl, ?_⟩) (by assumption) ?_
      · intro wq hSq; go_simp
      try simp only [Act.put, List.setIfInBounds_toArray, List.set_cons_zero, List.set_cons_succ]
      refine last.wpAnyL_take (i := 3) (v := (.pointer (some ⟨w.heap.size, 2, none⟩))) rfl rfl (by kernel_rfl) (by kernel_rfl) (by kernel_rfl) (by kernel_rfl) (fun _ _ _ h => h) (Or.inl ⟨by rfl, ?_⟩) (by assumption) ?_
      · intro wq hSq; go_simp
      try simp only [Act.put, List.setIfInBounds_toArray, List.set_cons_zero, List.set_cons_succ]
      refine last.wpAnyL_take (i := 4) (v := (.slice (some ⟨g, 0, none⟩) its.length sc)) rfl rfl (by kernel_rfl) (by kernel_rfl) (by kernel_rfl) (by kernel_rfl) (fun _ _ _ h => h) (Or.inl ⟨by rfl, ?_⟩) (by assumption) ?_
      · intro wq hSq; have q := hSq.1.c2; go_simp
      try simp only [Act.put, List.setIfInBounds_toArray, List.set_cons_zero, List.set_cons_succ]
      refine last.wpAnyL_take (i := 5) (v := (.int .i64 (k : Int))) rfl rfl (by kernel_rfl) (by kernel_rfl) (by kernel_rfl) (by kernel_rfl) (fun _ _ _ h => h) (Or.inl ⟨by rfl, ?_⟩) (by assumption) ?_
      · intro wq hSq; go_simp
      try simp only [Act.put, List.setIfInBounds_toArray, List.set_cons_zero, List.set_cons_succ]
      refine last.wpAnyL_take (i := 6) (v := (.pointer (some ⟨g, k * 3, none⟩))) rfl rfl (by kernel_rfl) (by kernel_rfl) (by kernel_rfl) (by kernel_rfl) (fun _ _ _ h => h) (Or.inl ⟨by rfl, ?_⟩) (by assumption) ?_
      · intro wq hSq; go_simp
      try simp only [Act.put, List.setIfInBounds_toArray, List.set_cons_zero, List.set_cons_succ]
      refine last.wpAnyL_take (i := 7) (v := (.pointer (some ⟨g, k * 3 + 2, none⟩))) rfl rfl (by kernel_rfl) (by kernel_rfl) (by kernel_rfl) (by kernel_rfl) (fun _ _ _ h => h) (Or.inl ⟨by rfl, ?_⟩) (by assumption) ?_
      · intro wq hSq; go_simp
      try simp only [Act.put, List.setIfInBounds_toArray, List.set_cons_zero, List.set_cons_succ]
      refine last.wpAnyL_take (i := 8) (v := (.slice (some ⟨yg, 0, none⟩) yn yc)) rfl rfl (by kernel_rfl) (by kernel_rfl) (by kernel_rfl) (by kernel_rfl) (fun _ _ _ h => h) (Or.inl ⟨by rfl, ?_⟩) (by assumption) ?_
      · intro wq hSq; have q := hSq.2; go_simp
      try simp only [Act.put, List.setIfInBounds_toArray, List.set_cons_zero, List.set_cons_succ]
      refine last.wpAnyL_one (i := 9) (o := { dst := some 81, op := Op.buildSlice 24 1 #[(0, Operand.const (Value.string { data := #[120] }))], type := 24, pos := "l05_range.go:97", after := #[], guard := none }) (by kernel_rfl) rfl (fun K hK => ?_)
      go_simp
      have hbA : Below w5.heap.size w5 (w5.drew.alloc (.cells #[.string ⟨#[120]⟩] 9)) := hd.alloc hd.size _
      refine hK.out _ _ ?_ (fun hHeld => ?_)
      · exact ⟨HV5.out.below hbA, (hbA.cell (p := ⟨g, k * 3 + 2, none⟩) hg5l).trans hS0.2⟩
      clear hK K
      try simp only [Act.put, List.setIfInBounds_toArray, List.set_cons_zero, List.set_cons_succ]
      refine last.wpAnyL_one (i := 10) (o := { dst := some 82, op := Op.call { callee := Callee.builtin Builtin.append, args := #[Operand.tmp 80, Operand.tmp 81], argTypes := #[24, 24] }, type := 24, pos := "l05_range.go:97", after := #[{ on := 8, ground := Ground.data }, { on := 9, ground := Ground.data }], guard := none }) (by kernel_rfl) rfl (fun K hK => ?_)
      refine step_append_own rfl (.tmp 80) (.tmp 81) 24 rfl (w.heap.size + 2) 9 j0 (.string ⟨#[]⟩) 1 16 Tryz.underlying24 hjf hy0 hy1 hy2 rfl (by decide) _ _ _ rfl (HPk.out.below hbA).2.2 ⟨w5.heap.size, 0, none⟩ 1 1 [.string ⟨#[120]⟩] rfl rfl (cell_one_new w5.drew _ _) (str_oneCell _) hc3 hc4 (Nat.le_trans (by have := hyW.2; omega) hbA.size) ?_
      intro v6 w6 hown hgrow hnn
      have hnn' : ¬ v6 = .slice none 0 0 := fun e => by first | exact hnn e | (have := (hnn.1 e).1; cases this)
      obtain ⟨g6, c6, hv6, hO6⟩ := ownS_val (ss := P ++ [(⟨#[120]⟩ : ByteArray)]) (n := yn + 1) (by rw [List.length_append]; simp; omega) hPsz hnn' (by simpa [strVals] using hown)
      subst hv6
      have hgr6 : (w5.drew.alloc (.cells #[.string ⟨#[120]⟩] 9)).grownBy w6 (some yg) := hgrow
      have hV6 := v3_grown (HV5.out.below hbA) hgr6 (by simp; omega)
      have hR6 := v3_grown (HR5.out.below hbA) hgr6 (by simp; omega)
      have hcell6 : w6.cell? ⟨g, k * 3 + 2, none⟩ = some (.slice (some ⟨yg, 0, none⟩) yn yc) := hgr6.cell ((hbA.cell (p := ⟨g, k * 3 + 2, none⟩) hg5l).trans hS0.2) (by simpa using fun e => hyg e.symm)
      have hfz6 : w6.frozen? ⟨g, k * 3 + 2, none⟩ = false := (frozen_of_block (hgr6.block g (Nat.lt_of_lt_of_le hg5l hbA.size) (by simpa using fun e => hyg e.symm)) (k * 3 + 2)).trans ((hbA.frozen (p := ⟨g, k * 3 + 2, none⟩) hg5l).trans hfz)
      refine hK.out _ _ ?_ (fun hHeld => ?_)
      · exact ⟨hV6, hcell6⟩
      clear hK K
      try simp only [Act.put, List.setIfInBounds_toArray, List.set_cons_zero, List.set_cons_succ]
      refine last.wpAnyL_one (i := 11) (o := { dst := some 83, op := Op.indexAddr 62 (Operand.tmp 73) (Operand.tmp 74), type := 0, pos := "l05_range.go:97", after := #[{ on := 1, ground := Ground.data }, { on := 2, ground := Ground.data }, { on := 0, ground := Ground.phase }, { on := 1, ground := Ground.phase }, { on := 2, ground := Ground.phase }, { on := 3, ground := Ground.phase }, { on := 4, ground := Ground.phase }, { on := 5, ground := Ground.phase }, { on := 6, ground := Ground.phase }, { on := 7, ground := Ground.phase }, { on := 8, ground := Ground.phase }, { on := 9, ground := Ground.phase }, { on := 10, ground := Ground.phase }], guard := none }) (by kernel_rfl) rfl (fun K hK => ?_)
      go_simp
      refine hK.out _ _ ?_ (fun hHeld => ?_)
      · exact ⟨hV6, hcell6⟩
      clear hK K
      try simp only [Act.put, List.setIfInBounds_toArray, List.set_cons_zero, List.set_cons_succ]
      refine last.wpAnyL_take (i := 12) (v := (.pointer (some ⟨g, k * 3 + 2, none⟩))) rfl rfl (by kernel_rfl) (by kernel_rfl) (by kernel_rfl) (by kernel_rfl) (fun _ _ _ h => h) (Or.inl ⟨by rfl, ?_⟩) (by assumption) ?_
      · intro wq hSq; go_simp
      try simp only [Act.put, List.setIfInBounds_toArray, List.set_cons_zero, List.set_cons_succ]
      refine last.wpAnyL_last (o := { dst := none, op := Op.store 24 (Operand.tmp 84) (Operand.tmp 82), type := 0, pos := "l05_range.go:97", after := #[{ on := 12, ground := Ground.data }, { on := 10, ground := Ground.data }, { on := 10, ground := Ground.chain }, { on := 0, ground := Ground.phase }, { on := 1, ground := Ground.phase }, { on := 2, ground := Ground.phase }, { on := 3, ground := Ground.phase }, { on := 4, ground := Ground.phase }, { on := 5, ground := Ground.phase }, { on := 6, ground := Ground.phase }, { on := 7, ground := Ground.phase }, { on := 8, ground := Ground.phase }, { on := 9, ground := Ground.phase }, { on := 10, ground := Ground.phase }], guard := none }) (by kernel_rfl) rfl (by kernel_rfl) (fun K hK => ?_)
      go_simp
      refine hK.out _ _ ?_
      clear hK K
      have hNP := HNP2.out _ w6 g6 (yn + 1) c6 hbA hgr6 hO6
      have hC6 := (hC5.below hbA).grown hgr6 (by simp; omega) (fun k e => by cases e; omega)
      have hG6 := grown_own (grown_below hG5 hbA) hgr6 (by omega)
      obtain ⟨w7, hw7⟩ : ∃ w7, w6.setCell ⟨g, k * 3 + 2, none⟩ (.slice (some ⟨g6, 0, none⟩) (yn + 1) c6) = w7 := ⟨_, rfl⟩
      rw [hw7] at hNP ⊢
      have hV7 := v3_grown hV6 hNP.2 (by simp; omega)
      have hR7 := v3_grown hR6 hNP.2 (by simp; omega)
      have hC7 := hC6.grown hNP.2 (by simp; omega) (fun k e => by cases e; omega)
      have hG7 := grown_own hG6 hNP.2 (by omega)
      have hJ7 := hNP.1
      have z0 := hV7.c0
      have z1 := hV7.c1
      have z2 := hV7.c2
      have r0 := hR7.c0
      have r1 := hR7.c1
      have r2 := hR7.c2
      have q0 := v3_fz hR7 0
      have q1 := v3_fz hR7 1
      have q2 := v3_fz hR7 2
      have HD := Hid.mk' (bend_done (w := w) (N := n) (FR := fr) (sc := sc) hC7 hR7 hG7 hJ7 ⟨by omega, by omega⟩ (by omega) htz (Nat.le_succ _) (by omega))
      clear hw7 HNP2 hNP hC6 hG6 hV6 hR6 hcell6 hfz6 hown hgrow hnn hnn' hgr6 hO6 hHeld hV7 hR7 hC7 hG7 hJ7 HV5 HR5 HPk hbA hd hS0
      go_wp2_with (at_builtin; fail)
      refine bodyPost_ret (v := .agg #[.int .i64 n, .int .i64 fr, .slice (some ⟨g, 0, none⟩) its.length sc]) ?_ rfl HD.out
      simp [results, Tryz.results56, go_sem, z0, z1, z2, r0, r1, r2]
    by_cases x6 : x = 6
    · subst x6
      have hkl : k < its.length := by omega
      have hki : (k : Int) < (its.length : Int) := by omega
      have hkh : k < hs.length := by have := hO5.len; omega
      have hlen5 := hO5.len
      obtain ⟨s1, s2, s3⟩ := hO5.at k hkl
      have hg5l := (hO5.lt g (.inl rfl)).2
      have hk1 : (k : Int) ≤ (its.length : Int) := by omega
      have hk2 : (k : Int) ≤ (sc : Int) := by omega
      have hk3 : ¬ sc = k := by omega
      have hHT : (hs.take k).length = (its.take k).length := by rw [List.length_take, List.length_take]; omega
      have hHD : (hs.drop k).length = (its.drop k).length := by rw [List.length_drop, List.length_drop]; omega
      have hlT : (itVals (its.take k) (hs.take k)).length = k * 3 := by rw [itVals_length _ _ hHT, List.length_take]; congr 1; omega
      have hlD : (itVals (its.drop k) (hs.drop k)).length = (its.length - k) * 3 := by rw [itVals_length _ _ hHD, List.length_drop]
      have hsplit : itVals its hs = itVals (its.take k) (hs.take k) ++ itVals (its.drop k) (hs.drop k) := by rw [← itVals_app _ _ _ _ hHT, List.take_append_drop, List.take_append_drop]
      have hcw : ∀ j u, (itVals its hs)[j]? = some u → w5.cell? ⟨g, j, none⟩ = some u := fun j u hu => by
        have := hO5.row.cells (g := g) rfl j u hu
        rw [Addr.add_lit, Nat.zero_add] at this
        exact this
      have HCT : Hid (∀ wx, Below w5.heap.size w5 wx → ∀ j u, (itVals (its.take k) (hs.take k))[j]? = some u → wx.cell? ((⟨g, 0, none⟩ : Addr).add j) = some u) := fun wx hx j u hu => by
        rw [Addr.add_lit, Nat.zero_add]
        refine (hx.cell (p := ⟨g, j, none⟩) hg5l).trans (hcw j u ?_)
        rw [hsplit, List.getElem?_append_left (List.getElem?_eq_some_iff.1 hu).1]; exact hu
      have HCD : Hid (∀ wx, Below w5.heap.size w5 wx → ∀ j u, (itVals (its.drop k) (hs.drop k))[j]? = some u → wx.cell? ((⟨g, k * 3, none⟩ : Addr).add j) = some u) := fun wx hx j u hu => by
        rw [Addr.add_lit]
        refine (hx.cell (p := ⟨g, k * 3 + j, none⟩) hg5l).trans (hcw (k * 3 + j) u ?_)
        rw [hsplit, List.getElem?_append_right (by omega), hlT, show k * 3 + j - k * 3 = j by omega]; exact hu
      have HDUP : Hid (∀ (w' : World) (gg nn cc base' : Nat), Below w5.heap.size w5 w' → w'.ownsRow base' 107 3 (.slice (some ⟨gg, 0, none⟩) nn cc) nn (itVals (its.take k ++ its[k] :: its.drop k) (hs.take k ++ hs[k] :: hs.drop k)) → nn = its.length + 1 → nn ≤ 1000 → SlJ w' (some ⟨gg, 0, none⟩) nn (its.take k ++ its[k] :: its.drop k) ∧ ∀ x ∈ its.take k ++ its[k] :: its.drop k, tinyI x) := fun w' gg nn cc base' hb hr hn hm => dup_row hO5 hb k hkl hkh hr hn hm htI
      have HIT : Hid (itVals (its.take k ++ its[k] :: its.drop k) (hs.take k ++ hs[k] :: hs.drop k) = itVals (its.take k) (hs.take k) ++ [.string its[k].1.1, .string its[k].1.2, .slice (some ⟨hs[k].1, 0, none⟩) hs[k].2.1 hs[k].2.2] ++ itVals (its.drop k) (hs.drop k)) := by
        show _ = _
        rw [itVals_app _ _ _ _ hHT, List.append_assoc]; rfl
      obtain ⟨x9, hx9⟩ : ∃ x9, its[k] = x9 := ⟨_, rfl⟩
      obtain ⟨y, hy⟩ : ∃ y, hs[k] = y := ⟨_, rfl⟩
      simp only [hx9, hy] at s1 s2 s3 HDUP HIT
      have hcellsT := HCT.out
      have hcellsD := HCD.out
      have hS0 : Below w5.heap.size w5 w5.drew := (Below.refl _ _).drew
      have y2 := hV5.c2
      have hc3 : 0 + k ≤ maxLen := by unfold maxLen; omega
      have hc4 : (0 + k) * 56 ≤ 140737488355328 := by omega
      have hc5 : k + 1 ≤ maxLen := by unfold maxLen; omega
      have hc6 : (k + 1) * 56 ≤ 140737488355328 := by omega
      have hc7 : k + 1 + (its.length - k) ≤ maxLen := by unfold maxLen; omega
      have hc8 : (k + 1 + (its.length - k)) * 56 ≤ 140737488355328 := by omega
      have HV5 := Hid.mk' hV5
      have HR5 := Hid.mk' hR5
      have HS1 := Hid.mk' s1
      have HS2 := Hid.mk' s2
      have HS3 := Hid.mk' s3
      clear hx9 hy hO5 hsplit hcw HCT HCD hHT hHD s1 s2 s3 hV5 hR5
      go_wp2_with (at_builtin; fail)
      refine last.wp_region_later (S := fun w' => Below w5.heap.size w5 w') 19 (by kernel_rfl) hS0 (fun hHeld => ?_)
      refine last.wpAnyL_take (i := 1) (v := (.pointer (some ⟨w.heap.size, 2, none⟩))) rfl rfl (by kernel_rfl) (by kernel_rfl) (by kernel_rfl) (by kernel_rfl) (fun _ _ _ h => h) (Or.inl ⟨by rfl, ?_⟩) (by assumption) ?_
      · intro wq hSq; go_simp
      try simp only [Act.put, List.setIfInBounds_toArray, List.set_cons_zero, List.set_cons_succ]
      refine last.wpAnyL_take (i := 2) (v := (.slice (some ⟨g, 0, none⟩) its.length sc)) rfl rfl (by kernel_rfl) (by kernel_rfl) (by kernel_rfl) (by kernel_rfl) (fun _ _ _ h => h) (Or.inl ⟨by rfl, ?_⟩) (by assumption) ?_
      · intro wq hSq; have q := (HV5.out.below hSq).c2; go_simp
      try simp only [Act.put, List.setIfInBounds_toArray, List.set_cons_zero, List.set_cons_succ]
      refine last.wpAnyL_take (i := 3) (v := (.int .i64 (k : Int))) rfl rfl (by kernel_rfl) (by kernel_rfl) (by kernel_rfl) (by kernel_rfl) (fun _ _ _ h => h) (Or.inl ⟨by rfl, ?_⟩) (by assumption) ?_
      · intro wq hSq; go_simp
      try simp only [Act.put, List.setIfInBounds_toArray, List.set_cons_zero, List.set_cons_succ]
      refine last.wpAnyL_take (i := 4) (v := (.slice (some ⟨g, 0, none⟩) k sc)) rfl rfl (by kernel_rfl) (by kernel_rfl) (by kernel_rfl) (by kernel_rfl) (fun _ _ _ h => h) (Or.inl ⟨by rfl, ?_⟩) (by assumption) ?_
      · intro wq hSq; go_simp
      try simp only [Act.put, List.setIfInBounds_toArray, List.set_cons_zero, List.set_cons_succ]
      refine last.wpAnyL_take (i := 6) (v := (.pointer (some ⟨w.heap.size, 2, none⟩))) rfl rfl (by kernel_rfl) (by kernel_rfl) (by kernel_rfl) (by kernel_rfl) (fun _ _ _ h => h) (Or.inl ⟨by rfl, ?_⟩) (by assumption) ?_
      · intro wq hSq; go_simp
      try simp only [Act.put, List.setIfInBounds_toArray, List.set_cons_zero, List.set_cons_succ]
      refine last.wpAnyL_take (i := 7) (v := (.slice (some ⟨g, 0, none⟩) its.length sc)) rfl rfl (by kernel_rfl) (by kernel_rfl) (by kernel_rfl) (by kernel_rfl) (fun _ _ _ h => h) (Or.inl ⟨by rfl, ?_⟩) (by assumption) ?_
      · intro wq hSq; have q := (HV5.out.below hSq).c2; go_simp
      try simp only [Act.put, List.setIfInBounds_toArray, List.set_cons_zero, List.set_cons_succ]
      refine last.wpAnyL_take (i := 8) (v := (.int .i64 (k : Int))) rfl rfl (by kernel_rfl) (by kernel_rfl) (by kernel_rfl) (by kernel_rfl) (fun _ _ _ h => h) (Or.inl ⟨by rfl, ?_⟩) (by assumption) ?_
      · intro wq hSq; go_simp
      try simp only [Act.put, List.setIfInBounds_toArray, List.set_cons_zero, List.set_cons_succ]
      refine last.wpAnyL_take (i := 9) (v := (.pointer (some ⟨g, k * 3, none⟩))) rfl rfl (by kernel_rfl) (by kernel_rfl) (by kernel_rfl) (by kernel_rfl) (fun _ _ _ h => h) (Or.inl ⟨by rfl, ?_⟩) (by assumption) ?_
      · intro wq hSq; go_simp
      try simp only [Act.put, List.setIfInBounds_toArray, List.set_cons_zero, List.set_cons_succ]
      refine last.wpAnyL_take (i := 10) (v := (.agg #[.string x9.1.1, .string x9.1.2, .slice (some ⟨y.1, 0, none⟩) y.2.1 y.2.2])) rfl rfl (by kernel_rfl) (by kernel_rfl) (by kernel_rfl) (by kernel_rfl) (fun _ _ _ h => h) (Or.inl ⟨by rfl, ?_⟩) (by assumption) ?_
      · intro wq hSq; have q1 := (hSq.cell (p := ⟨g, k * 3, none⟩) hg5l).trans HS1.out; have q2 := (hSq.cell (p := ⟨g, k * 3 + 1, none⟩) hg5l).trans HS2.out; have q3 := (hSq.cell (p := ⟨g, k * 3 + 2, none⟩) hg5l).trans HS3.out; go_simp
      try simp only [Act.put, List.setIfInBounds_toArray, List.set_cons_zero, List.set_cons_succ]
      refine last.wpAnyL_take (i := 13) (v := (.pointer (some ⟨w.heap.size, 2, none⟩))) rfl rfl (by kernel_rfl) (by kernel_rfl) (by kernel_rfl) (by kernel_rfl) (fun _ _ _ h => h) (Or.inl ⟨by rfl, ?_⟩) (by assumption) ?_
      · intro wq hSq; go_simp
      try simp only [Act.put, List.setIfInBounds_toArray, List.set_cons_zero, List.set_cons_succ]
      refine last.wpAnyL_take (i := 14) (v := (.slice (some ⟨g, 0, none⟩) its.length sc)) rfl rfl (by kernel_rfl) (by kernel_rfl) (by kernel_rfl) (by kernel_rfl) (fun _ _ _ h => h) (Or.inl ⟨by rfl, ?_⟩) (by assumption) ?_
      · intro wq hSq; have q := (HV5.out.below hSq).c2; go_simp
      try simp only [Act.put, List.setIfInBounds_toArray, List.set_cons_zero, List.set_cons_succ]
      refine last.wpAnyL_take (i := 15) (v := (.int .i64 (k : Int))) rfl rfl (by kernel_rfl) (by kernel_rfl) (by kernel_rfl) (by kernel_rfl) (fun _ _ _ h => h) (Or.inl ⟨by rfl, ?_⟩) (by assumption) ?_
      · intro wq hSq; go_simp
      try simp only [Act.put, List.setIfInBounds_toArray, List.set_cons_zero, List.set_cons_succ]
      refine last.wpAnyL_take (i := 16) (v := (.slice (some ⟨g, k * 3, none⟩) (its.length - k) (sc - k))) rfl rfl (by kernel_rfl) (by kernel_rfl) (by kernel_rfl) (by kernel_rfl) (fun _ _ _ h => h) (Or.inl ⟨by rfl, ?_⟩) (by assumption) ?_
      · intro wq hSq; go_simp
      try simp only [Act.put, List.setIfInBounds_toArray, List.set_cons_zero, List.set_cons_succ]
      refine last.wpAnyL_two (i := 0) (j := 11) (o := { dst := some 91, op := Op.buildSlice 62 0 #[], type := 62, pos := "l05_range.go:101", after := #[], guard := none }) (o' := { dst := some 102, op := Op.buildSlice 62 1 #[(0, Operand.tmp 101)], type := 62, pos := "l05_range.go:101", after := #[{ on := 10, ground := Ground.data }], guard := none }) (by kernel_rfl) rfl rfl (fun K hK => ?_) (fun K hK => ?_)
      · go_simp
        have hbA : Below w5.heap.size w5 (w5.drew.alloc (.cells #[] 107)) := hS0.alloc hS0.size _
        refine hK.out _ _ ?_ (fun hHeld => ?_)
        · exact hbA
        clear hK K
        try simp only [Act.put, List.setIfInBounds_toArray, List.set_cons_zero, List.set_cons_succ]
        refine last.wpAnyL_two (i := 5) (j := 11) (o := { dst := some 96, op := Op.call { callee := Callee.builtin Builtin.append, args := #[Operand.tmp 91, Operand.tmp 95], argTypes := #[62, 62] }, type := 62, pos := "l05_range.go:101", after := #[{ on := 0, ground := Ground.data }, { on := 4, ground := Ground.data }], guard := none }) (o' := { dst := some 102, op := Op.buildSlice 62 1 #[(0, Operand.tmp 101)], type := 62, pos := "l05_range.go:101", after := #[{ on := 10, ground := Ground.data }], guard := none }) (by kernel_rfl) rfl rfl (fun K hK => ?_) (fun K hK => ?_)
        · refine step_append_own rfl (.tmp 91) (.tmp 95) 62 rfl w5.heap.size 107 i0 (.agg #[.string ⟨#[]⟩, .string ⟨#[]⟩, .slice none 0 0]) 3 56 Tryz.underlying62 hif hz0 hz1 hz2 rfl (by decide) _ _ _ rfl (World.ownsRow_made (w5.drew) #[] 0 (Nat.le_refl _) (Nat.zero_le _) rfl) ⟨g, 0, none⟩ k sc (itVals (its.take k) (hs.take k)) rfl hlT (hcellsT _ hbA) (itVals_oneCell _ _) hc3 hc4 hbA.size ?_
          intro v6 wb hownb hgrowb hnnb
          have hnnb' : ¬ v6 = .slice none 0 0 := fun e => by first | exact hnnb e | (have := (hnnb.1 e).1; cases this)
          obtain ⟨g6, c6, hv6⟩ := row_shape hownb hnnb'
          subst hv6
          have hgrb : (w5.drew.alloc (.cells #[] 107)).grownBy wb (some w5.heap.size) := hgrowb
          have hbb : Below w5.heap.size w5 wb := hbA.grown hgrb hbA.size (fun j e => by cases e; omega)
          have hrowb : wb.ownsRow w5.heap.size 107 3 (.slice (some ⟨g6, 0, none⟩) k c6) k (itVals (its.take k) (hs.take k)) := by
            have h9 := hownb
            simp only [Nat.zero_add, List.nil_append] at h9
            exact h9
          refine hK.out _ _ ?_ (fun hHeld => ?_)
          · exact hbb
          clear hK K
          try simp only [Act.put, List.setIfInBounds_toArray, List.set_cons_zero, List.set_cons_succ]
          refine last.wpAnyL_one (i := 11) (o := { dst := some 102, op := Op.buildSlice 62 1 #[(0, Operand.tmp 101)], type := 62, pos := "l05_range.go:101", after := #[{ on := 10, ground := Ground.data }], guard := none }) (by kernel_rfl) rfl (fun K hK => ?_)
          go_simp
          have hb6 : Below w5.heap.size w5 (wb.alloc (.cells #[.string x9.1.1, .string x9.1.2, .slice (some ⟨y.1, 0, none⟩) y.2.1 y.2.2] 107)) := hbb.alloc hbb.size _
          have hrow6 := hrowb.alloc (.cells #[.string x9.1.1, .string x9.1.2, .slice (some ⟨y.1, 0, none⟩) y.2.1 y.2.2] 107)
          have h102 := cells_three wb (.string x9.1.1) (.string x9.1.2) (.slice (some ⟨y.1, 0, none⟩) y.2.1 y.2.2) 107
          refine hK.out _ _ ?_ (fun hHeld => ?_)
          · exact hb6
          clear hK K
          try simp only [Act.put, List.setIfInBounds_toArray, List.set_cons_zero, List.set_cons_succ]
          clear hHeld hownb hgrowb hnnb hnnb' hgrb hrowb
          generalize wb.alloc (.cells #[.string x9.1.1, .string x9.1.2, .slice (some ⟨y.1, 0, none⟩) y.2.1 y.2.2] 107) = w6 at *
          generalize wb.heap.size = b102 at *
          (try simp only [Nat.zero_add])
          refine last.wpAnyL_one (i := 12) (o := { dst := some 103, op := Op.call { callee := Callee.builtin Builtin.append, args := #[Operand.tmp 96, Operand.tmp 102], argTypes := #[62, 62] }, type := 62, pos := "l05_range.go:101", after := #[{ on := 5, ground := Ground.data }, { on := 11, ground := Ground.data }, { on := 5, ground := Ground.chain }], guard := none }) (by kernel_rfl) rfl (fun K hK => ?_)
          refine step_append_own rfl (.tmp 96) (.tmp 102) 62 rfl w5.heap.size 107 i0 (.agg #[.string ⟨#[]⟩, .string ⟨#[]⟩, .slice none 0 0]) 3 56 Tryz.underlying62 hif hz0 hz1 hz2 rfl (by decide) _ _ _ rfl hrow6 ⟨b102, 0, none⟩ 1 1 [.string x9.1.1, .string x9.1.2, .slice (some ⟨y.1, 0, none⟩) y.2.1 y.2.2] rfl rfl h102 (three_oneCell _ _ _ _ _) hc5 hc6 hb6.size ?_
          intro v7 w7 hown7 hgrow7 hnn7
          have hnn7' : ¬ v7 = .slice none 0 0 := fun e => by first | exact hnn7 e | (have := (hnn7.1 e).1; cases this)
          obtain ⟨g7, c7, hv7⟩ := row_shape hown7 hnn7'
          subst hv7
          have hg6W := (hrow6.lt g6 rfl).1
          have hgr7 : w6.grownBy w7 (some g6) := hgrow7
          have hb7 : Below w5.heap.size w5 w7 := hb6.grown hgr7 hb6.size (fun j e => by cases e; exact hg6W)
          refine hK.out _ _ ?_ (fun hHeld => ?_)
          · exact hb7
          clear hK K
          try simp only [Act.put, List.setIfInBounds_toArray, List.set_cons_zero, List.set_cons_succ]
          refine last.wpAnyL_one (i := 17) (o := { dst := some 108, op := Op.call { callee := Callee.builtin Builtin.append, args := #[Operand.tmp 103, Operand.tmp 107], argTypes := #[62, 62] }, type := 62, pos := "l05_range.go:101", after := #[{ on := 12, ground := Ground.data }, { on := 16, ground := Ground.data }, { on := 12, ground := Ground.chain }], guard := none }) (by kernel_rfl) rfl (fun K hK => ?_)
          refine step_append_own rfl (.tmp 103) (.tmp 107) 62 rfl w5.heap.size 107 i0 (.agg #[.string ⟨#[]⟩, .string ⟨#[]⟩, .slice none 0 0]) 3 56 Tryz.underlying62 hif hz0 hz1 hz2 rfl (by decide) _ _ _ rfl hown7 ⟨g, k * 3, none⟩ (its.length - k) (sc - k) (itVals (its.drop k) (hs.drop k)) rfl hlD (hcellsD _ hb7) (itVals_oneCell _ _) hc7 hc8 hb7.size ?_
          intro v8 w8 hown8 hgrow8 hnn8
          have hnn8' : ¬ v8 = .slice none 0 0 := fun e => by first | exact hnn8 e | (have := (hnn8.1 e).1; cases this)
          obtain ⟨g8, c8, hv8⟩ := row_shape hown8 hnn8'
          subst hv8
          have hg7W := (hown7.lt g7 rfl).1
          have hgr8 : w7.grownBy w8 (some g7) := hgrow8
          have hb8 : Below w5.heap.size w5 w8 := hb7.grown hgr8 hb7.size (fun j e => by cases e; exact hg7W)
          refine hK.out _ _ ?_ (fun hHeld => ?_)
          · exact hb8
          clear hK K
          try simp only [Act.put, List.setIfInBounds_toArray, List.set_cons_zero, List.set_cons_succ]
          refine last.wpAnyL_take (i := 18) (v := (.pointer (some ⟨w.heap.size, 2, none⟩))) rfl rfl (by kernel_rfl) (by kernel_rfl) (by kernel_rfl) (by kernel_rfl) (fun _ _ _ h => h) (Or.inl ⟨by rfl, ?_⟩) (by assumption) ?_
          · intro wq hSq; go_simp
          try simp only [Act.put, List.setIfInBounds_toArray, List.set_cons_zero, List.set_cons_succ]
          have hV8 := HV5.out.below hb8
          have hR8 := HR5.out.below hb8
          have e8 := hV8.c2
          have f8 := v3_fz hV8 2
          refine last.wpAnyL_last (o := { dst := none, op := Op.store 62 (Operand.tmp 109) (Operand.tmp 108), type := 0, pos := "l05_range.go:101", after := #[{ on := 18, ground := Ground.data }, { on := 17, ground := Ground.data }, { on := 17, ground := Ground.chain }, { on := 0, ground := Ground.phase }, { on := 1, ground := Ground.phase }, { on := 2, ground := Ground.phase }, { on := 3, ground := Ground.phase }, { on := 4, ground := Ground.phase }, { on := 5, ground := Ground.phase }, { on := 6, ground := Ground.phase }, { on := 7, ground := Ground.phase }, { on := 8, ground := Ground.phase }, { on := 9, ground := Ground.phase }, { on := 10, ground := Ground.phase }, { on := 11, ground := Ground.phase }, { on := 12, ground := Ground.phase }, { on := 13, ground := Ground.phase }, { on := 14, ground := Ground.phase }, { on := 15, ground := Ground.phase }, { on := 16, ground := Ground.phase }, { on := 17, ground := Ground.phase }], guard := none }) (by kernel_rfl) rfl (by kernel_rfl) (fun K hK => ?_)
          go_simp
          refine hK.out _ _ ?_
          clear hK K
          have hrow8 : w8.ownsRow w5.heap.size 107 3 (.slice (some ⟨g8, 0, none⟩) (k + 1 + (its.length - k)) c8) (k + 1 + (its.length - k)) (itVals (its.take k ++ x9 :: its.drop k) (hs.take k ++ y :: hs.drop k)) := by
            have h9 := hown8
            rw [HIT.out]; exact h9
          have hJ8 := HDUP.out w8 g8 (k + 1 + (its.length - k)) c8 w5.heap.size hb8 hrow8 (by omega) (by omega)
          have hC8 := hC5.below hb8
          have hG8 := grown_below hG5 hb8
          have hV9 := (v3_set hV8).2.2 (.slice (some ⟨g8, 0, none⟩) (k + 1 + (its.length - k)) c8)
          obtain ⟨w9, hw9⟩ : ∃ w9, w8.setCell ⟨w.heap.size, 2, none⟩ (.slice (some ⟨g8, 0, none⟩) (k + 1 + (its.length - k)) c8) = w9 := ⟨_, rfl⟩
          rw [hw9] at hV9 ⊢
          have hR9 := v3_grown hR8 hV9.2 (by simp)
          have hC9 := hC8.grown hV9.2 (by simp; omega) (fun k e => by cases e; omega)
          have hG9 := grown_own hG8 hV9.2 (Nat.le_refl _)
          have hJ9 := slJ_keep hJ8.1 hV8.noStr hV9.2
          have htz := hJ8.2
          have hVz := hV9.1
          have z0 := hVz.c0
          have z1 := hVz.c1
          have z2 := hVz.c2
          have r0 := hR9.c0
          have r1 := hR9.c1
          have r2 := hR9.c2
          have q0 := v3_fz hR9 0
          have q1 := v3_fz hR9 1
          have q2 := v3_fz hR9 2
          have HD := Hid.mk' (bend_done (w := w) (N := n) (FR := fr) (sc := c8) hC9 hR9 hG9 hJ9 ⟨by omega, by omega⟩ (by omega) htz (Nat.le_succ _) (by omega))
          clear hw9 HDUP hJ8 hrow8 hown8 hgrow8 hnn8 hnn8' hgr8 hown7 hgrow7 hnn7 hnn7' hgr7 hrow6 h102 hb6 hb7 hb8 hHeld hV8 hR8 e8 f8 hV9 hR9 hC8 hC9 hG8 hG9 hJ9 HV5 HR5
          go_wp2_with (at_builtin; fail)
          refine bodyPost_ret (v := .agg #[.int .i64 n, .int .i64 fr, .slice (some ⟨g8, 0, none⟩) (k + 1 + (its.length - k)) c8]) ?_ rfl HD.out
          simp [results, Tryz.results56, go_sem, z0, z1, z2, r0, r1, r2]
        · go_simp
          have hbX : Below w5.heap.size w5 ((w5.drew.alloc (.cells #[] 107)).alloc (.cells #[.string x9.1.1, .string x9.1.2, .slice (some ⟨y.1, 0, none⟩) y.2.1 y.2.2] 107)) := hbA.alloc hbA.size _
          refine hK.out _ _ ?_ (fun hHeld => ?_)
          · exact hbX
          clear hK K
          try simp only [Act.put, List.setIfInBounds_toArray, List.set_cons_zero, List.set_cons_succ]
          refine last.wpAnyL_one (i := 5) (o := { dst := some 96, op := Op.call { callee := Callee.builtin Builtin.append, args := #[Operand.tmp 91, Operand.tmp 95], argTypes := #[62, 62] }, type := 62, pos := "l05_range.go:101", after := #[{ on := 0, ground := Ground.data }, { on := 4, ground := Ground.data }], guard := none }) (by kernel_rfl) rfl (fun K hK => ?_)
          refine step_append_own rfl (.tmp 91) (.tmp 95) 62 rfl w5.heap.size 107 i0 (.agg #[.string ⟨#[]⟩, .string ⟨#[]⟩, .slice none 0 0]) 3 56 Tryz.underlying62 hif hz0 hz1 hz2 rfl (by decide) _ _ _ rfl ((World.ownsRow_made w5.drew #[] 0 (Nat.le_refl _) (Nat.zero_le _) rfl).alloc _) ⟨g, 0, none⟩ k sc (itVals (its.take k) (hs.take k)) rfl hlT (hcellsT _ hbX) (itVals_oneCell _ _) hc3 hc4 hbX.size ?_
          intro v6 wb hownb hgrowb hnnb
          have hnnb' : ¬ v6 = .slice none 0 0 := fun e => by first | exact hnnb e | (have := (hnnb.1 e).1; cases this)
          obtain ⟨g6, c6, hv6⟩ := row_shape hownb hnnb'
          subst hv6
          have hgrb : ((w5.drew.alloc (.cells #[] 107)).alloc (.cells #[.string x9.1.1, .string x9.1.2, .slice (some ⟨y.1, 0, none⟩) y.2.1 y.2.2] 107)).grownBy wb (some w5.heap.size) := hgrowb
          have hbb : Below w5.heap.size w5 wb := hbX.grown hgrb hbX.size (fun j e => by cases e; omega)
          have hrowb : wb.ownsRow w5.heap.size 107 3 (.slice (some ⟨g6, 0, none⟩) k c6) k (itVals (its.take k) (hs.take k)) := by
            have h9 := hownb
            simp only [Nat.zero_add, List.nil_append] at h9
            exact h9
          have h102 : ∀ j u, ([.string x9.1.1, .string x9.1.2, .slice (some ⟨y.1, 0, none⟩) y.2.1 y.2.2] : List Value)[j]? = some u → wb.cell? ((⟨w5.heap.size + 1, 0, none⟩ : Addr).add j) = some u := fun j u hu => by
            have h0 := cells_three (w5.drew.alloc (.cells #[] 107)) (.string x9.1.1) (.string x9.1.2) (.slice (some ⟨y.1, 0, none⟩) y.2.1 y.2.2) 107 j u hu
            rw [show (w5.drew.alloc (.cells #[] 107)).heap.size = w5.heap.size + 1 by simp, Addr.add_lit] at h0
            rw [Addr.add_lit]
            exact hgrb.cell h0 (by simp)
          have hb6 := hbb
          have hrow6 := hrowb
          refine hK.out _ _ ?_ (fun hHeld => ?_)
          · exact hb6
          clear hK K
          try simp only [Act.put, List.setIfInBounds_toArray, List.set_cons_zero, List.set_cons_succ]
          clear hHeld hownb hgrowb hnnb hnnb' hgrb hrowb
          (try simp only [Nat.zero_add])
          refine last.wpAnyL_one (i := 12) (o := { dst := some 103, op := Op.call { callee := Callee.builtin Builtin.append, args := #[Operand.tmp 96, Operand.tmp 102], argTypes := #[62, 62] }, type := 62, pos := "l05_range.go:101", after := #[{ on := 5, ground := Ground.data }, { on := 11, ground := Ground.data }, { on := 5, ground := Ground.chain }], guard := none }) (by kernel_rfl) rfl (fun K hK => ?_)
          refine step_append_own rfl (.tmp 96) (.tmp 102) 62 rfl w5.heap.size 107 i0 (.agg #[.string ⟨#[]⟩, .string ⟨#[]⟩, .slice none 0 0]) 3 56 Tryz.underlying62 hif hz0 hz1 hz2 rfl (by decide) _ _ _ rfl hrow6 ⟨w5.heap.size + 1, 0, none⟩ 1 1 [.string x9.1.1, .string x9.1.2, .slice (some ⟨y.1, 0, none⟩) y.2.1 y.2.2] rfl rfl h102 (three_oneCell _ _ _ _ _) hc5 hc6 hb6.size ?_
          intro v7 w7 hown7 hgrow7 hnn7
          have hnn7' : ¬ v7 = .slice none 0 0 := fun e => by first | exact hnn7 e | (have := (hnn7.1 e).1; cases this)
          obtain ⟨g7, c7, hv7⟩ := row_shape hown7 hnn7'
          subst hv7
          have hg6W := (hrow6.lt g6 rfl).1
          have hgr7 : wb.grownBy w7 (some g6) := hgrow7
          have hb7 : Below w5.heap.size w5 w7 := hb6.grown hgr7 hb6.size (fun j e => by cases e; exact hg6W)
          refine hK.out _ _ ?_ (fun hHeld => ?_)
          · exact hb7
          clear hK K
          try simp only [Act.put, List.setIfInBounds_toArray, List.set_cons_zero, List.set_cons_succ]
          refine last.wpAnyL_one (i := 17) (o := { dst := some 108, op := Op.call { callee := Callee.builtin Builtin.append, args := #[Operand.tmp 103, Operand.tmp 107], argTypes := #[62, 62] }, type := 62, pos := "l05_range.go:101", after := #[{ on := 12, ground := Ground.data }, { on := 16, ground := Ground.data }, { on := 12, ground := Ground.chain }], guard := none }) (by kernel_rfl) rfl (fun K hK => ?_)
          refine step_append_own rfl (.tmp 103) (.tmp 107) 62 rfl w5.heap.size 107 i0 (.agg #[.string ⟨#[]⟩, .string ⟨#[]⟩, .slice none 0 0]) 3 56 Tryz.underlying62 hif hz0 hz1 hz2 rfl (by decide) _ _ _ rfl hown7 ⟨g, k * 3, none⟩ (its.length - k) (sc - k) (itVals (its.drop k) (hs.drop k)) rfl hlD (hcellsD _ hb7) (itVals_oneCell _ _) hc7 hc8 hb7.size ?_
          intro v8 w8 hown8 hgrow8 hnn8
          have hnn8' : ¬ v8 = .slice none 0 0 := fun e => by first | exact hnn8 e | (have := (hnn8.1 e).1; cases this)
          obtain ⟨g8, c8, hv8⟩ := row_shape hown8 hnn8'
          subst hv8
          have hg7W := (hown7.lt g7 rfl).1
          have hgr8 : w7.grownBy w8 (some g7) := hgrow8
          have hb8 : Below w5.heap.size w5 w8 := hb7.grown hgr8 hb7.size (fun j e => by cases e; exact hg7W)
          refine hK.out _ _ ?_ (fun hHeld => ?_)
          · exact hb8
          clear hK K
          try simp only [Act.put, List.setIfInBounds_toArray, List.set_cons_zero, List.set_cons_succ]
          refine last.wpAnyL_take (i := 18) (v := (.pointer (some ⟨w.heap.size, 2, none⟩))) rfl rfl (by kernel_rfl) (by kernel_rfl) (by kernel_rfl) (by kernel_rfl) (fun _ _ _ h => h) (Or.inl ⟨by rfl, ?_⟩) (by assumption) ?_
          · intro wq hSq; go_simp
          try simp only [Act.put, List.setIfInBounds_toArray, List.set_cons_zero, List.set_cons_succ]
          have hV8 := HV5.out.below hb8
          have hR8 := HR5.out.below hb8
          have e8 := hV8.c2
          have f8 := v3_fz hV8 2
          refine last.wpAnyL_last (o := { dst := none, op := Op.store 62 (Operand.tmp 109) (Operand.tmp 108), type := 0, pos := "l05_range.go:101", after := #[{ on := 18, ground := Ground.data }, { on := 17, ground := Ground.data }, { on := 17, ground := Ground.chain }, { on := 0, ground := Ground.phase }, { on := 1, ground := Ground.phase }, { on := 2, ground := Ground.phase }, { on := 3, ground := Ground.phase }, { on := 4, ground := Ground.phase }, { on := 5, ground := Ground.phase }, { on := 6, ground := Ground.phase }, { on := 7, ground := Ground.phase }, { on := 8, ground := Ground.phase }, { on := 9, ground := Ground.phase }, { on := 10, ground := Ground.phase }, { on := 11, ground := Ground.phase }, { on := 12, ground := Ground.phase }, { on := 13, ground := Ground.phase }, { on := 14, ground := Ground.phase }, { on := 15, ground := Ground.phase }, { on := 16, ground := Ground.phase }, { on := 17, ground := Ground.phase }], guard := none }) (by kernel_rfl) rfl (by kernel_rfl) (fun K hK => ?_)
          go_simp
          refine hK.out _ _ ?_
          clear hK K
          have hrow8 : w8.ownsRow w5.heap.size 107 3 (.slice (some ⟨g8, 0, none⟩) (k + 1 + (its.length - k)) c8) (k + 1 + (its.length - k)) (itVals (its.take k ++ x9 :: its.drop k) (hs.take k ++ y :: hs.drop k)) := by
            have h9 := hown8
            rw [HIT.out]; exact h9
          have hJ8 := HDUP.out w8 g8 (k + 1 + (its.length - k)) c8 w5.heap.size hb8 hrow8 (by omega) (by omega)
          have hC8 := hC5.below hb8
          have hG8 := grown_below hG5 hb8
          have hV9 := (v3_set hV8).2.2 (.slice (some ⟨g8, 0, none⟩) (k + 1 + (its.length - k)) c8)
          obtain ⟨w9, hw9⟩ : ∃ w9, w8.setCell ⟨w.heap.size, 2, none⟩ (.slice (some ⟨g8, 0, none⟩) (k + 1 + (its.length - k)) c8) = w9 := ⟨_, rfl⟩
          rw [hw9] at hV9 ⊢
          have hR9 := v3_grown hR8 hV9.2 (by simp)
          have hC9 := hC8.grown hV9.2 (by simp; omega) (fun k e => by cases e; omega)
          have hG9 := grown_own hG8 hV9.2 (Nat.le_refl _)
          have hJ9 := slJ_keep hJ8.1 hV8.noStr hV9.2
          have htz := hJ8.2
          have hVz := hV9.1
          have z0 := hVz.c0
          have z1 := hVz.c1
          have z2 := hVz.c2
          have r0 := hR9.c0
          have r1 := hR9.c1
          have r2 := hR9.c2
          have q0 := v3_fz hR9 0
          have q1 := v3_fz hR9 1
          have q2 := v3_fz hR9 2
          have HD := Hid.mk' (bend_done (w := w) (N := n) (FR := fr) (sc := c8) hC9 hR9 hG9 hJ9 ⟨by omega, by omega⟩ (by omega) htz (Nat.le_succ _) (by omega))
          clear hw9 HDUP hJ8 hrow8 hown8 hgrow8 hnn8 hnn8' hgr8 hown7 hgrow7 hnn7 hnn7' hgr7 hrow6 h102 hb6 hb7 hb8 hHeld hV8 hR8 e8 f8 hV9 hR9 hC8 hC9 hG8 hG9 hJ9 HV5 HR5
          go_wp2_with (at_builtin; fail)
          refine bodyPost_ret (v := .agg #[.int .i64 n, .int .i64 fr, .slice (some ⟨g8, 0, none⟩) (k + 1 + (its.length - k)) c8]) ?_ rfl HD.out
          simp [results, Tryz.results56, go_sem, z0, z1, z2, r0, r1, r2]
      · go_simp
        have hbA : Below w5.heap.size w5 (w5.drew.alloc (.cells #[.string x9.1.1, .string x9.1.2, .slice (some ⟨y.1, 0, none⟩) y.2.1 y.2.2] 107)) := hS0.alloc hS0.size _
        refine hK.out _ _ ?_ (fun hHeld => ?_)
        · exact hbA
        clear hK K
        try simp only [Act.put, List.setIfInBounds_toArray, List.set_cons_zero, List.set_cons_succ]
        refine last.wpAnyL_one (i := 0) (o := { dst := some 91, op := Op.buildSlice 62 0 #[], type := 62, pos := "l05_range.go:101", after := #[], guard := none }) (by kernel_rfl) rfl (fun K hK => ?_)
        go_simp
        have hbX : Below w5.heap.size w5 ((w5.drew.alloc (.cells #[.string x9.1.1, .string x9.1.2, .slice (some ⟨y.1, 0, none⟩) y.2.1 y.2.2] 107)).alloc (.cells #[] 107)) := hbA.alloc hbA.size _
        refine hK.out _ _ ?_ (fun hHeld => ?_)
        · exact hbX
        clear hK K
        try simp only [Act.put, List.setIfInBounds_toArray, List.set_cons_zero, List.set_cons_succ]
        refine last.wpAnyL_one (i := 5) (o := { dst := some 96, op := Op.call { callee := Callee.builtin Builtin.append, args := #[Operand.tmp 91, Operand.tmp 95], argTypes := #[62, 62] }, type := 62, pos := "l05_range.go:101", after := #[{ on := 0, ground := Ground.data }, { on := 4, ground := Ground.data }], guard := none }) (by kernel_rfl) rfl (fun K hK => ?_)
        refine step_append_own rfl (.tmp 91) (.tmp 95) 62 rfl w5.heap.size 107 i0 (.agg #[.string ⟨#[]⟩, .string ⟨#[]⟩, .slice none 0 0]) 3 56 Tryz.underlying62 hif hz0 hz1 hz2 rfl (by decide) _ _ _ rfl (mk_row (w5.drew.alloc (.cells #[.string x9.1.1, .string x9.1.2, .slice (some ⟨y.1, 0, none⟩) y.2.1 y.2.2] 107)) w5.heap.size (w5.heap.size + 1) (by simp) hbA.size) ⟨g, 0, none⟩ k sc (itVals (its.take k) (hs.take k)) rfl hlT (hcellsT _ hbX) (itVals_oneCell _ _) hc3 hc4 hbX.size ?_
        intro v6 wb hownb hgrowb hnnb
        have hnnb' : ¬ v6 = .slice none 0 0 := fun e => by first | exact hnnb e | (have := (hnnb.1 e).1; cases this)
        obtain ⟨g6, c6, hv6⟩ := row_shape hownb hnnb'
        subst hv6
        have hgrb : ((w5.drew.alloc (.cells #[.string x9.1.1, .string x9.1.2, .slice (some ⟨y.1, 0, none⟩) y.2.1 y.2.2] 107)).alloc (.cells #[] 107)).grownBy wb (some (w5.heap.size + 1)) := hgrowb
        have hbb : Below w5.heap.size w5 wb := hbX.grown hgrb hbX.size (fun j e => by cases e; omega)
        have hrowb : wb.ownsRow w5.heap.size 107 3 (.slice (some ⟨g6, 0, none⟩) k c6) k (itVals (its.take k) (hs.take k)) := by
          have h9 := hownb
          simp only [Nat.zero_add, List.nil_append] at h9
          exact h9
        have h102 : ∀ j u, ([.string x9.1.1, .string x9.1.2, .slice (some ⟨y.1, 0, none⟩) y.2.1 y.2.2] : List Value)[j]? = some u → wb.cell? ((⟨w5.heap.size, 0, none⟩ : Addr).add j) = some u := fun j u hu => by
          have h0 := cells_three w5.drew (.string x9.1.1) (.string x9.1.2) (.slice (some ⟨y.1, 0, none⟩) y.2.1 y.2.2) 107 j u hu
          rw [Addr.add_lit] at h0 ⊢
          have hba : Below (w5.drew.alloc (.cells #[.string x9.1.1, .string x9.1.2, .slice (some ⟨y.1, 0, none⟩) y.2.1 y.2.2] 107)).heap.size (w5.drew.alloc (.cells #[.string x9.1.1, .string x9.1.2, .slice (some ⟨y.1, 0, none⟩) y.2.1 y.2.2] 107)) ((w5.drew.alloc (.cells #[.string x9.1.1, .string x9.1.2, .slice (some ⟨y.1, 0, none⟩) y.2.1 y.2.2] 107)).alloc (.cells #[] 107)) := (Below.refl _ _).alloc (Nat.le_refl _) _
          exact hgrb.cell ((hba.cell (p := ⟨w5.heap.size, 0 + j, none⟩) (by simp)).trans h0) (by simp)
        have hb6 := hbb
        have hrow6 := hrowb
        refine hK.out _ _ ?_ (fun hHeld => ?_)
        · exact hb6
        clear hK K
        try simp only [Act.put, List.setIfInBounds_toArray, List.set_cons_zero, List.set_cons_succ]
        clear hHeld hownb hgrowb hnnb hnnb' hgrb hrowb
        (try simp only [Nat.zero_add])
        refine last.wpAnyL_one (i := 12) (o := { dst := some 103, op := Op.call { callee := Callee.builtin Builtin.append, args := #[Operand.tmp 96, Operand.tmp 102], argTypes := #[62, 62] }, type := 62, pos := "l05_range.go:101", after := #[{ on := 5, ground := Ground.data }, { on := 11, ground := Ground.data }, { on := 5, ground := Ground.chain }], guard := none }) (by kernel_rfl) rfl (fun K hK => ?_)
        refine step_append_own rfl (.tmp 96) (.tmp 102) 62 rfl w5.heap.size 107 i0 (.agg #[.string ⟨#[]⟩, .string ⟨#[]⟩, .slice none 0 0]) 3 56 Tryz.underlying62 hif hz0 hz1 hz2 rfl (by decide) _ _ _ rfl hrow6 ⟨w5.heap.size, 0, none⟩ 1 1 [.string x9.1.1, .string x9.1.2, .slice (some ⟨y.1, 0, none⟩) y.2.1 y.2.2] rfl rfl h102 (three_oneCell _ _ _ _ _) hc5 hc6 hb6.size ?_
        intro v7 w7 hown7 hgrow7 hnn7
        have hnn7' : ¬ v7 = .slice none 0 0 := fun e => by first | exact hnn7 e | (have := (hnn7.1 e).1; cases this)
        obtain ⟨g7, c7, hv7⟩ := row_shape hown7 hnn7'
        subst hv7
        have hg6W := (hrow6.lt g6 rfl).1
        have hgr7 : wb.grownBy w7 (some g6) := hgrow7
        have hb7 : Below w5.heap.size w5 w7 := hb6.grown hgr7 hb6.size (fun j e => by cases e; exact hg6W)
        refine hK.out _ _ ?_ (fun hHeld => ?_)
        · exact hb7
        clear hK K
        try simp only [Act.put, List.setIfInBounds_toArray, List.set_cons_zero, List.set_cons_succ]
        refine last.wpAnyL_one (i := 17) (o := { dst := some 108, op := Op.call { callee := Callee.builtin Builtin.append, args := #[Operand.tmp 103, Operand.tmp 107], argTypes := #[62, 62] }, type := 62, pos := "l05_range.go:101", after := #[{ on := 12, ground := Ground.data }, { on := 16, ground := Ground.data }, { on := 12, ground := Ground.chain }], guard := none }) (by kernel_rfl) rfl (fun K hK => ?_)
        refine step_append_own rfl (.tmp 103) (.tmp 107) 62 rfl w5.heap.size 107 i0 (.agg #[.string ⟨#[]⟩, .string ⟨#[]⟩, .slice none 0 0]) 3 56 Tryz.underlying62 hif hz0 hz1 hz2 rfl (by decide) _ _ _ rfl hown7 ⟨g, k * 3, none⟩ (its.length - k) (sc - k) (itVals (its.drop k) (hs.drop k)) rfl hlD (hcellsD _ hb7) (itVals_oneCell _ _) hc7 hc8 hb7.size ?_
        intro v8 w8 hown8 hgrow8 hnn8
        have hnn8' : ¬ v8 = .slice none 0 0 := fun e => by first | exact hnn8 e | (have := (hnn8.1 e).1; cases this)
        obtain ⟨g8, c8, hv8⟩ := row_shape hown8 hnn8'
        subst hv8
        have hg7W := (hown7.lt g7 rfl).1
        have hgr8 : w7.grownBy w8 (some g7) := hgrow8
        have hb8 : Below w5.heap.size w5 w8 := hb7.grown hgr8 hb7.size (fun j e => by cases e; exact hg7W)
        refine hK.out _ _ ?_ (fun hHeld => ?_)
        · exact hb8
        clear hK K
        try simp only [Act.put, List.setIfInBounds_toArray, List.set_cons_zero, List.set_cons_succ]
        refine last.wpAnyL_take (i := 18) (v := (.pointer (some ⟨w.heap.size, 2, none⟩))) rfl rfl (by kernel_rfl) (by kernel_rfl) (by kernel_rfl) (by kernel_rfl) (fun _ _ _ h => h) (Or.inl ⟨by rfl, ?_⟩) (by assumption) ?_
        · intro wq hSq; go_simp
        try simp only [Act.put, List.setIfInBounds_toArray, List.set_cons_zero, List.set_cons_succ]
        have hV8 := HV5.out.below hb8
        have hR8 := HR5.out.below hb8
        have e8 := hV8.c2
        have f8 := v3_fz hV8 2
        refine last.wpAnyL_last (o := { dst := none, op := Op.store 62 (Operand.tmp 109) (Operand.tmp 108), type := 0, pos := "l05_range.go:101", after := #[{ on := 18, ground := Ground.data }, { on := 17, ground := Ground.data }, { on := 17, ground := Ground.chain }, { on := 0, ground := Ground.phase }, { on := 1, ground := Ground.phase }, { on := 2, ground := Ground.phase }, { on := 3, ground := Ground.phase }, { on := 4, ground := Ground.phase }, { on := 5, ground := Ground.phase }, { on := 6, ground := Ground.phase }, { on := 7, ground := Ground.phase }, { on := 8, ground := Ground.phase }, { on := 9, ground := Ground.phase }, { on := 10, ground := Ground.phase }, { on := 11, ground := Ground.phase }, { on := 12, ground := Ground.phase }, { on := 13, ground := Ground.phase }, { on := 14, ground := Ground.phase }, { on := 15, ground := Ground.phase }, { on := 16, ground := Ground.phase }, { on := 17, ground := Ground.phase }], guard := none }) (by kernel_rfl) rfl (by kernel_rfl) (fun K hK => ?_)
        go_simp
        refine hK.out _ _ ?_
        clear hK K
        have hrow8 : w8.ownsRow w5.heap.size 107 3 (.slice (some ⟨g8, 0, none⟩) (k + 1 + (its.length - k)) c8) (k + 1 + (its.length - k)) (itVals (its.take k ++ x9 :: its.drop k) (hs.take k ++ y :: hs.drop k)) := by
          have h9 := hown8
          rw [HIT.out]; exact h9
        have hJ8 := HDUP.out w8 g8 (k + 1 + (its.length - k)) c8 w5.heap.size hb8 hrow8 (by omega) (by omega)
        have hC8 := hC5.below hb8
        have hG8 := grown_below hG5 hb8
        have hV9 := (v3_set hV8).2.2 (.slice (some ⟨g8, 0, none⟩) (k + 1 + (its.length - k)) c8)
        obtain ⟨w9, hw9⟩ : ∃ w9, w8.setCell ⟨w.heap.size, 2, none⟩ (.slice (some ⟨g8, 0, none⟩) (k + 1 + (its.length - k)) c8) = w9 := ⟨_, rfl⟩
        rw [hw9] at hV9 ⊢
        have hR9 := v3_grown hR8 hV9.2 (by simp)
        have hC9 := hC8.grown hV9.2 (by simp; omega) (fun k e => by cases e; omega)
        have hG9 := grown_own hG8 hV9.2 (Nat.le_refl _)
        have hJ9 := slJ_keep hJ8.1 hV8.noStr hV9.2
        have htz := hJ8.2
        have hVz := hV9.1
        have z0 := hVz.c0
        have z1 := hVz.c1
        have z2 := hVz.c2
        have r0 := hR9.c0
        have r1 := hR9.c1
        have r2 := hR9.c2
        have q0 := v3_fz hR9 0
        have q1 := v3_fz hR9 1
        have q2 := v3_fz hR9 2
        have HD := Hid.mk' (bend_done (w := w) (N := n) (FR := fr) (sc := c8) hC9 hR9 hG9 hJ9 ⟨by omega, by omega⟩ (by omega) htz (Nat.le_succ _) (by omega))
        clear hw9 HDUP hJ8 hrow8 hown8 hgrow8 hnn8 hnn8' hgr8 hown7 hgrow7 hnn7 hnn7' hgr7 hrow6 h102 hb6 hb7 hb8 hHeld hV8 hR8 e8 f8 hV9 hR9 hC8 hC9 hG8 hG9 hJ9 HV5 HR5
        go_wp2_with (at_builtin; fail)
        refine bodyPost_ret (v := .agg #[.int .i64 n, .int .i64 fr, .slice (some ⟨g8, 0, none⟩) (k + 1 + (its.length - k)) c8]) ?_ rfl HD.out
        simp [results, Tryz.results56, go_sem, z0, z1, z2, r0, r1, r2]
    have n0 : ((x : Int) == 0) = false := by rw [beq_eq_false_iff_ne]; omega
    have n1 : ((x : Int) == 1) = false := by rw [beq_eq_false_iff_ne]; omega
    have n2 : ((x : Int) == 2) = false := by rw [beq_eq_false_iff_ne]; omega
    have n3 : ((x : Int) == 3) = false := by rw [beq_eq_false_iff_ne]; omega
    have n4 : ((x : Int) == 4) = false := by rw [beq_eq_false_iff_ne]; omega
    have n5 : ((x : Int) == 5) = false := by rw [beq_eq_false_iff_ne]; omega
    have n6 : ((x : Int) == 6) = false := by rw [beq_eq_false_iff_ne]; omega
    have hJ5 := hO5.slJ (by omega) (fun x hx => (htI x hx).lim)
    have z0 := hV5.c0
    have z1 := hV5.c1
    have z2 := hV5.c2
    have r0 := hR5.c0
    have r1 := hR5.c1
    have r2 := hR5.c2
    have q0 := v3_fz hR5 0
    have q1 := v3_fz hR5 1
    have q2 := v3_fz hR5 2
    have HD := Hid.mk' (bend_done (w := w) (N := n) (FR := fr) (sc := sc) hC5 hR5 hG5 hJ5 ⟨by omega, by omega⟩ (by omega) htI (Nat.le_succ _) (by omega))
    clear hJ5
    go_wp2_with (at_builtin; fail)
    refine bodyPost_ret (v := .agg #[.int .i64 n, .int .i64 fr, .slice (some ⟨g, 0, none⟩) its.length sc]) ?_ rfl HD.out
    simp [results, Tryz.results56, go_sem, z0, z1, z2, r0, r1, r2]
end Go.Proofs.YteammdkipnfmnaaGreatDoor.range
