/- The statement FnPathsCardSaid: at every slice of bytes FnPaths answers true, and the slice reads afterwards as before, where the table of the rounds' words is as the program's text lays it (the card ties it). No condition besides the row's own. -/
import Derived.Test.YtmdhkoiimffmlaaDoorRows
import Derived.Test.YtmdhkoiimffmlaaDoorCards
import Derived.Test.YtmdhkoiimffmlaaDoorTie
import Derived.Test.YtmdhkoiimffmlaaDoorTreeC
import Derived.Test.YtmdhkoiimffmlaaDoorTreeX
import Derived.Test.YtmdhkoiimffmlaaDoorDrawV
import Derived.Test.YtmdhkoiimffmlaaDoorBig
import Derived.Test.YtmdhkoiimffmlaaDoorDoor
import Derived.ProofKit
import Derived.OpenShut
import Derived.ShutString
import Derived.ChangeOld
import Derived.Below
import Derived.Deep.RegionHeld3
namespace Go.Proofs.YtmdhkoiimffmlaaDoor.fnPaths
open Go.ChangeShapes Go.WideShapes Go.ChangeAt Go.RowKit
open Go.ChangeMaps (open_string shut_string)
set_option linter.unusedVariables false
open Go.Proofs.YtmdhkoiimffmlaaDoor.base Go.Proofs.YtmdhkoiimffmlaaDoor.pairs Go.Proofs.YtmdhkoiimffmlaaDoor.tree Go.Proofs.YtmdhkoiimffmlaaDoor.draw

theorem check_len {p : Pr} {i n : Nat} {P : List ByteArray} {root : ByteArray} (h : P.length ≠ depth i n) : checkPathI p (i : Int) (n : Int) P root = false := by
  unfold checkPathI
  rw [Int.toNat_natCast, Int.toNat_natCast]
  have hc := climb_length (leafOf p) i n P
  rw [decide_eq_false h] at hc
  have : checkPath p i n P root = false := by
    unfold checkPath
    cases hq : climb (leafOf p) i n P with
    | none => rfl
    | some t => rw [hq] at hc; cases hc
  rw [this]; simp
theorem check_true (l : List Pr) (i : Nat) (h : i < l.length) (h60 : l.length ≤ 60) : checkPathI l[i] (i : Int) (l.length : Int) (path l i) (rootOf l) = true := by
  unfold checkPathI
  rw [decide_eq_true (by omega), decide_eq_true (by omega), Int.toNat_natCast, Int.toNat_natCast]
  unfold checkPath
  rw [climb_path l i h]
  simp [rootOf]
theorem check_out (p : Pr) (n : Nat) (P : List ByteArray) (root : ByteArray) : checkPathI p (n : Int) (n : Int) P root = false := by
  unfold checkPathI
  rw [decide_eq_false (by omega : ¬ ((0 : Int) ≤ (n : Int) ∧ (n : Int) ≤ (n : Int) - 1))]; simp
theorem step_append_held {P : Program} {ops : Array Oper} {o : Oper} {a : Act} {w : World} {K : Act → World → Prop} {Q : Exit → Act → World → Prop} {E : Prop} (hw : Region.wanted o (yielded ops a.tmps) = true) (s x : Operand) (t : TypeId)
    (ho : o.op = .call { callee := .builtin .append, args := #[s, x], argTypes := #[t, t] })
    (base : Nat) (e : TypeId) (i : TypeInfo) (z : Value) (size bytes : Nat) (ht : P.underlying t = some (.slice e)) (hi : P.info? e = some i) (hz : i.zero = some z)
    (hsize : i.size = size) (hby : i.bytes = bytes) (hzs : z.cells.size = size) (hsz : 0 < size)
    (v : Value) (n : Nat) (xs : List Value) (hs : a.eval s = v) (hown : w.ownsRow base e size v n xs)
    (ad : Addr) (m c : Nat) (news : List Value) (hx : a.eval x = .slice (some ad) m c) (hl : news.length = m * size) (hnews : ∀ j u, news[j]? = some u → w.cell? (ad.add j) = some u) (h1 : ∀ u ∈ news, u.oneCell' = true)
    (h63 : n + m ≤ maxLen) (hbytes : (n + m) * bytes ≤ 140737488355328) (hbase : base ≤ w.heap.size)
    (h : ∀ v' w', w'.ownsRow base e size v' (n + m) (xs ++ news) → w.grownBy w' v.ownBlock → (v' = .slice none 0 0 ↔ v = .slice none 0 0 ∧ m = 0) → K (a.put o.dst v') w') :
    if Region.wanted o (yielded ops a.tmps) = true then Oper.wp P o a w K Q else E := by
  rw [if_pos hw]
  exact wp_append_own w s x t ho base e i z size bytes ht hi hz hsize hby hzs hsz v n xs hs hown ad m c news hx hl hnews h1 h63 hbytes hbase h

theorem sls_cells {w : World} {b off len : Nat} {ss : List ByteArray} (h : SlS w (some ⟨b, off, none⟩) len ss) : ∀ j u, (strVals ss)[j]? = some u → w.cell? ((⟨b, off, none⟩ : Addr).add j) = some u := by
  intro j u hj
  have hjl : j < ss.length := by have := (List.getElem?_eq_some_iff.1 hj).1; rwa [strVals_length] at this
  obtain ⟨b', o', e, hc⟩ := h.2.2.2 (by have := h.1; omega)
  simp only [Option.some.injEq, Addr.mk.injEq, and_true] at e
  obtain ⟨rfl, rfl⟩ := e
  rw [Addr.add_lit, hc j hjl, ← hj]
  simp [strVals, hjl]
theorem strVals_oneCell (ss : List ByteArray) : ∀ u ∈ strVals ss, u.oneCell' = true := by
  intro u hu
  obtain ⟨s, _, rfl⟩ := List.mem_map.1 hu
  rfl
theorem one_cell_keep {w : World} {b : Nat} {x : ByteArray} (h : w.cell? ⟨b, 0, none⟩ = some (.string x)) : ∀ j u, ([.string x] : List Value)[j]? = some u → w.cell? ((⟨b, 0, none⟩ : Addr).add j) = some u := by
  intro j u hj
  cases j with
  | zero => simp at hj; subst hj; rw [Addr.add_lit]; exact h
  | succ j => simp at hj
theorem ownS_made2 (w : World) (x : Obj) (base : Nat) (hb : base ≤ w.heap.size) : OwnS ((w.alloc x).alloc (.cells #[] 9)) base (w.heap.size + 1) 0 0 [] := by
  have h := ownS_made (w.alloc x) base (le_alloc _ _ hb)
  have e : (w.alloc x).heap.size = w.heap.size + 1 := by simp
  rw [e] at h
  exact h
theorem x_way2 {w w' : World} {s : ByteArray} (hg : ((w.alloc (.cells #[] 9)).alloc (.cells #[.string s] 9)).grownBy w' (some w.heap.size)) : w'.cell? ⟨w.heap.size + 1, 0, none⟩ = some (.string s) :=
  hg.cell (by simp) (by simp)
theorem x_way3 {w w' : World} {s : ByteArray} (hg : ((w.alloc (.cells #[.string s] 9)).alloc (.cells #[] 9)).grownBy w' (some (w.heap.size + 1))) : w'.cell? ⟨w.heap.size, 0, none⟩ = some (.string s) :=
  hg.cell (by simp) (by simp)
/-- what is held: the pair's two cells, and all that lay below -/
theorem held_alloc {w3 w : World} {g i : Nat} {x y : ByteArray} (h : (w.cell? ⟨g, i * 2, none⟩ = some (.string x) ∧ w.cell? ⟨g, i * 2 + 1, none⟩ = some (.string y)) ∧ Below w3.heap.size w3 w) (o : Obj) :
    ((w.alloc o).cell? ⟨g, i * 2, none⟩ = some (.string x) ∧ (w.alloc o).cell? ⟨g, i * 2 + 1, none⟩ = some (.string y)) ∧ Below w3.heap.size w3 (w.alloc o) :=
  ⟨two_cells ((Below.refl _ _).alloc (Nat.le_refl _) _) h.1, h.2.alloc h.2.size _⟩
theorem held_below {w3 w w' : World} {g i : Nat} {x y : ByteArray} (hb : Below w.heap.size w w') (h : (w.cell? ⟨g, i * 2, none⟩ = some (.string x) ∧ w.cell? ⟨g, i * 2 + 1, none⟩ = some (.string y)) ∧ Below w3.heap.size w3 w) :
    (w'.cell? ⟨g, i * 2, none⟩ = some (.string x) ∧ w'.cell? ⟨g, i * 2 + 1, none⟩ = some (.string y)) ∧ Below w3.heap.size w3 w' :=
  ⟨two_cells hb h.1, h.2.trans (hb.mono h.2.size)⟩
theorem held_grown {w3 w w' : World} {g i k : Nat} {x y : ByteArray} (hg : w.grownBy w' (some k)) (hk : w3.heap.size ≤ k) (hgl : g < w3.heap.size) (h : (w.cell? ⟨g, i * 2, none⟩ = some (.string x) ∧ w.cell? ⟨g, i * 2 + 1, none⟩ = some (.string y)) ∧ Below w3.heap.size w3 w) :
    (w'.cell? ⟨g, i * 2, none⟩ = some (.string x) ∧ w'.cell? ⟨g, i * 2 + 1, none⟩ = some (.string y)) ∧ Below w3.heap.size w3 w' :=
  ⟨⟨hg.cell h.1.1 (by simp; omega), hg.cell h.1.2 (by simp; omega)⟩, h.2.grown hg h.2.size (fun j e => by cases e; exact hk)⟩

theorem heldC {w3 w : World} (g i : Nat) (x y : ByteArray) (h : (w.cell? ⟨g, i * 2, none⟩ = some (.string x) ∧ w.cell? ⟨g, i * 2 + 1, none⟩ = some (.string y)) ∧ Below w3.heap.size w3 w) : w.cell? ⟨g, i * 2, none⟩ = some (.string x) ∧ w.cell? ⟨g, i * 2 + 1, none⟩ = some (.string y) := h.1
theorem sls_drop1 {w : World} {b o : Nat} {p : List ByteArray} (h : SlS w (some ⟨b, o, none⟩) p.length p) : SlS w (some ⟨b, o + 1, none⟩) (p.drop 1).length (p.drop 1) := by
  obtain ⟨h1, h2, h3, h4⟩ := h
  refine ⟨rfl, by simp; omega, fun s hs => h3 s (List.mem_of_mem_drop hs), fun h0 => ?_⟩
  simp at h0
  obtain ⟨b', o', e, hc⟩ := h4 (by omega)
  simp only [Option.some.injEq, Addr.mk.injEq, and_true] at e
  obtain ⟨rfl, rfl⟩ := e
  refine ⟨b, o + 1, rfl, fun j hj => ?_⟩
  have := hc (1 + j) (by simp at hj; omega)
  rw [List.getElem_drop, show o + 1 + j = o + (1 + j) by omega]
  exact this
theorem heldB {w3 w : World} (g i : Nat) (x y : ByteArray) (h : (w.cell? ⟨g, i * 2, none⟩ = some (.string x) ∧ w.cell? ⟨g, i * 2 + 1, none⟩ = some (.string y)) ∧ Below w3.heap.size w3 w) : Below w3.heap.size w3 w := h.2

set_option maxRecDepth 100000 in
set_option maxHeartbeats 4000000 in
theorem walk (a0 : Option Addr) (len0 cap0 : Nat) (b0 : List UInt8) (w : World) (w0 : Sl w a0 len0 b0) (hK : sha.KW w) :
    Calls Tryd.prog 4 #[.slice a0 len0 cap0] w fun e w' => e = .returned (.bool true) ∧ Below w.heap.size w w' := by
  have hm := w0.2.1
  by_cases hbig : 1048576 < len0
  · have hb := big_ a0 len0 cap0 w hm
    rw [decide_eq_true (by omega)] at hb
    have HB := Hid.mk' hb
    clear hb
    go_enter Tryd.func4, Tryd.ntmps4
    go_wp2_with fail
    refine HB.out.mono ?_
    rintro e wa ⟨rfl, rfl⟩
    go_wp2_with fail
    go_ret
    exact ⟨rfl, Below.refl _ _⟩
  · have hb := big_ a0 len0 cap0 w hm
    rw [decide_eq_false (by omega)] at hb
    have HB := Hid.mk' hb
    clear hb
    obtain ⟨i0, hi, hz0, hz1, hz2⟩ := info_parts info9
    go_enter Tryd.func4, Tryd.ntmps4
    go_wp2_with fail
    refine HB.out.mono ?_
    rintro e wa ⟨rfl, hwa⟩
    subst hwa
    go_wp2_with fail
    refine (drawPlace a0 len0 cap0 b0 _ w0 (by omega)).mono ?_
    rintro e w1 ⟨g, n, cp, i, l, hn, hin, ht, rfl, hO1, hB1⟩
    have hl := hO1.1
    subst hl
    have hcp := hO1.cases
    have hlim : ∀ p ∈ l, lim p := fun p hp => ⟨Nat.le_trans (ht p hp).1 (by omega), Nat.le_trans (ht p hp).2 (by omega)⟩
    have HPI : Hid (pathI l (i : Int) = path l i) := by show _ = _; unfold pathI; rw [if_pos (by omega), Int.toNat_natCast]
    have HRI : Hid (rootI l = rootOf l) := by show _ = _; unfold rootI; rw [if_pos (by omega)]
    go_wp2_with fail
    refine (impl_pathOf _ _ _ _ l (i : Int) _ hO1.sl hcp.1 hlim (WalkArith.wf_i64 (by omega)) (hK.below hB1)).mono ?_
    rintro e w2 ⟨g2, n2, cp2, rfl, hP2, hb2⟩
    rw [HPI.out] at hP2
    have hB2 := hB1.trans (hb2.mono hB1.size)
    have hO2 := hO1.below hb2
    have hpl := path_length l i
    have hps := path_small l i
    have H1 := Hid.mk' (check_true l i hin (by omega))
    have H2 : Hid (checkPathI l[i] (i : Int) (l.length : Int) (path l i ++ [⟨#[120]⟩]) (rootOf l) = false) := check_len (by rw [List.length_append, hpl]; simp)
    have H3 := Hid.mk' (check_out l[i] l.length (path l i) (rootOf l))
    have H4 : Hid (path l i ≠ [] → checkPathI l[i] (i : Int) (l.length : Int) ((path l i).drop 1) (rootOf l) = false) := fun hne => check_len (by rw [List.length_drop, hpl]; have := List.length_pos_iff.2 hne; omega)
    have hpd := depth_le i l.length
    have hn2 := hP2.1
    have hpi := hlim _ (List.getElem_mem hin)
    have hrs : (rootOf l).size = 32 := dg_size _
    clear hO1 hb2 HPI
    go_wp2_with fail
    refine (impl_rootOf _ _ _ _ l _ hO2.sl hcp.1 hlim (hK.below hB2)).mono ?_
    rintro e w3 ⟨he, hb3⟩
    rw [HRI.out] at he
    subst he
    have hB3 := hB2.trans (hb3.mono hB2.size)
    have hO3 := hO2.below hb3
    have hP3 := hP2.below hb3
    have hK3 := hK.below hB3
    have c1 := hO3.key i hin
    have c2 := hO3.val i hin
    have hsl := hO3.lt
    generalize rootOf l = root at *
    generalize hpp : path l i = P at *
    generalize l[i] = q at *
    have hii : (i : Int) < (l.length : Int) := by omega
    have hcpP := hP3.cases
    subst hn2
    have hPsm : ∀ s ∈ P, s.size ≤ maxLen := hP3.2.1
    have hPsm2 : ∀ s ∈ P ++ [(⟨#[120]⟩ : ByteArray)], s.size ≤ maxLen := fun s hs => by
      rcases List.mem_append.1 hs with h1 | h1
      · exact hPsm s h1
      · rw [List.mem_singleton.1 h1]; decide
    have hPlim : ∀ s ∈ P, s.size ≤ 137438953472 := fun s hs => by rw [hps s hs]; omega
    have hPL : P.length ≤ 60 := by omega
    have hPw : ∀ wx, Below w3.heap.size w3 wx → SlS wx (some ⟨g2, 0, none⟩) P.length P := fun wx hx => hP3.sl.below hx
    have hKw : ∀ wx, Below w3.heap.size w3 wx → sha.KW wx := fun wx hx => hK3.below hx
    have HC1 : Hid (∀ wx, Below w3.heap.size w3 wx → Calls Tryd.prog 20 #[.agg #[.string q.1, .string q.2], .int .i64 (i : Int), .int .i64 (l.length : Int), .slice (some ⟨g2, 0, none⟩) P.length cp2, .string root] wx fun e w' => e = .returned (.bool true) ∧ Below wx.heap.size wx w') := fun wx hx => by
      have := impl_checkPath q (i : Int) (l.length : Int) g2 0 cp2 P root wx hpi (hPw wx hx) hPlim hcpP.1 (by unfold maxLen; omega) (WalkArith.wf_i64 (by omega)) (WalkArith.wf_i64 (by omega)) (hKw wx hx)
      rw [H1.out] at this; exact this
    have HC2 : Hid (∀ wx gb cb, Below w3.heap.size w3 wx → SlS wx (some ⟨gb, 0, none⟩) (P.length + 1) (P ++ [⟨#[120]⟩]) → P.length + 1 ≤ cb → Calls Tryd.prog 20 #[.agg #[.string q.1, .string q.2], .int .i64 (i : Int), .int .i64 (l.length : Int), .slice (some ⟨gb, 0, none⟩) (P.length + 1) cb, .string root] wx fun e w' => e = .returned (.bool false) ∧ Below wx.heap.size wx w') := fun wx gb cb hx hs hc => by
      have hle : (P ++ [(⟨#[120]⟩ : ByteArray)]).length = P.length + 1 := by simp
      have := impl_checkPath q (i : Int) (l.length : Int) gb 0 cb (P ++ [⟨#[120]⟩]) root wx hpi (by rw [hle]; exact hs) (fun s hs => by
        rcases List.mem_append.1 hs with h1 | h1
        · exact hPlim s h1
        · rw [List.mem_singleton.1 h1]; decide) (by omega) (by unfold maxLen; omega) (WalkArith.wf_i64 (by omega)) (WalkArith.wf_i64 (by omega)) (hKw wx hx)
      rw [H2.out, hle] at this; exact this
    have HC3 : Hid (∀ wx, Below w3.heap.size w3 wx → Calls Tryd.prog 20 #[.agg #[.string q.1, .string q.2], .int .i64 (l.length : Int), .int .i64 (l.length : Int), .slice (some ⟨g2, 0, none⟩) P.length cp2, .string root] wx fun e w' => e = .returned (.bool false) ∧ Below wx.heap.size wx w') := fun wx hx => by
      have := impl_checkPath q (l.length : Int) (l.length : Int) g2 0 cp2 P root wx hpi (hPw wx hx) hPlim hcpP.1 (by unfold maxLen; omega) (WalkArith.wf_i64 (by omega)) (WalkArith.wf_i64 (by omega)) (hKw wx hx)
      rw [H3.out] at this; exact this
    have HPL := Hid.mk' hpl
    have hgl := hsl.2
    have hd3 : Below w3.heap.size w3 w3.drew := (Below.refl _ _).drew
    have hcc : (w3.drew.cell? ⟨g, i * 2, none⟩ = some (.string q.1) ∧ w3.drew.cell? ⟨g, i * 2 + 1, none⟩ = some (.string q.2)) ∧ Below w3.heap.size w3 w3.drew := ⟨⟨c1, c2⟩, hd3⟩
    clear hO2 hP2 hb3 HRI HB hB2 hpp hlim hpl hP3 hps hpd c1 c2 H1 H2 H3 hO3 hsl hK3
    go_wp2_with fail
    go_region_held3 (fun w' => (w'.cell? ⟨g, i * 2, none⟩ = some (.string q.1) ∧ w'.cell? ⟨g, i * 2 + 1, none⟩ = some (.string q.2)) ∧ Below w3.heap.size w3 w') (first | (exact hcc) | (exact held_below hb10 (by assumption)) | (exact held_below hb9 (by assumption)) | (exact held_grown hgr8 (by have := hO7.lt; omega) hgl (by assumption)) | (exact held_grown hgr7 (by omega) hgl (by assumption)) | (exact held_below hb5 (by assumption)) | (exact held_alloc (by assumption) _)) (first | (go_at_call 20; have h9 := hb9; refine (HC3.out _ (heldB g i q.1 q.2 (by assumption))).mono ?_; rintro e w10 ⟨rfl, hb10⟩) | (go_at_call 20; refine (HC2.out _ g8 cap8 (heldB g i q.1 q.2 (by assumption)) hO8.sl hO8.cases.1).mono ?_; rintro e w9 ⟨rfl, hb9⟩) | (refine step_append_held (by rfl) (.tmp 40) (.tmp 41) 33 rfl w3.heap.size 9 i0 (.string ⟨#[]⟩) 1 16 Tryd.underlying33 hi hz0 hz1 hz2 rfl (by decide) (.slice (some ⟨g7, 0, none⟩) P.length cap7) P.length (strVals P) rfl (by first | exact hO7.2.2 | exact hO7.2.2.alloc _) _ 1 1 [.string ⟨#[120]⟩] rfl rfl (by first | exact cell_one_new _ _ _ | exact one_cell_keep (by assumption)) (str_oneCell _) (by unfold maxLen; omega) (by omega) (by first | exact (by have := hO7.lt; omega) | exact le_alloc _ _ (by have := hO7.lt; omega)) ?_; intro v8 w8 hown8 hgrow8 hnn8; have hnn8' : ¬ v8 = .slice none 0 0 := (by simpa using hnn8); obtain ⟨g8, cap8, hv8, hO8⟩ := ownS_val (ss := P ++ [⟨#[120]⟩]) (n := P.length + 1) (by simp) hPsm2 hnn8' (by simpa [strVals] using hown8); subst hv8; have hgr8 : _root_.Go.World.grownBy _ w8 (some g7) := hgrow8) | (refine step_append_held (by rfl) (.tmp 38) (.tmp 39) 33 rfl w3.heap.size 9 i0 (.string ⟨#[]⟩) 1 16 Tryd.underlying33 hi hz0 hz1 hz2 rfl (by decide) (.slice (some ⟨w5.heap.size, 0, none⟩) 0 0) 0 [] rfl (by first | exact (ownS_made w5 _ hs5).2.2 | exact (ownS_made w5 _ hs5).2.2.alloc _) ⟨g2, 0, none⟩ P.length cp2 (strVals P) rfl (by rw [strVals_length]; omega) (by first | exact sls_cells (hPw _ (hB5.alloc hs5 _)) | exact sls_cells (hPw _ ((hB5.alloc hs5 _).alloc (le_alloc _ _ hs5) _))) (strVals_oneCell P) (by unfold maxLen; omega) (by omega) (by first | exact le_alloc _ _ hs5 | exact le_alloc _ _ (le_alloc _ _ hs5)) ?_; intro v7 w7 hown7 hgrow7 hnn7; have hnn7' : ¬ v7 = .slice none 0 0 := (by simpa using hnn7); obtain ⟨g7, cap7, hv7, hO7⟩ := ownS_val (ss := P) (n := P.length) rfl hPsm hnn7' (by simpa using hown7); subst hv7; have hs7 := hgrow7.size; have hgr7 : _root_.Go.World.grownBy _ w7 (some (w5.heap.size)) := hgrow7; (try have hxA := x_way2 hgr7); (try have hxB := x_way3 hgr7)) | (refine step_append_held (by rfl) (.tmp 38) (.tmp 39) 33 rfl w3.heap.size 9 i0 (.string ⟨#[]⟩) 1 16 Tryd.underlying33 hi hz0 hz1 hz2 rfl (by decide) (.slice (some ⟨w5.heap.size + 1, 0, none⟩) 0 0) 0 [] rfl (by exact (ownS_made2 w5 _ _ hs5).2.2) ⟨g2, 0, none⟩ P.length cp2 (strVals P) rfl (by rw [strVals_length]; omega) (by first | exact sls_cells (hPw _ (hB5.alloc hs5 _)) | exact sls_cells (hPw _ ((hB5.alloc hs5 _).alloc (le_alloc _ _ hs5) _))) (strVals_oneCell P) (by unfold maxLen; omega) (by omega) (by first | exact le_alloc _ _ hs5 | exact le_alloc _ _ (le_alloc _ _ hs5)) ?_; intro v7 w7 hown7 hgrow7 hnn7; have hnn7' : ¬ v7 = .slice none 0 0 := (by simpa using hnn7); obtain ⟨g7, cap7, hv7, hO7⟩ := ownS_val (ss := P) (n := P.length) rfl hPsm hnn7' (by simpa using hown7); subst hv7; have hs7 := hgrow7.size; have hgr7 : _root_.Go.World.grownBy _ w7 (some (w5.heap.size + 1)) := hgrow7; (try have hxA := x_way2 hgr7); (try have hxB := x_way3 hgr7)) | (go_at_call 20; refine (HC1.out _ hd3).mono ?_; rintro e w5 ⟨rfl, hb5⟩; have hB5 := hd3.trans (hb5.mono hd3.size); have hs5 := hB5.size))
    all_goals
      have hS10 := heldB g i q.1 q.2 (w3 := w3) (w := w10) (by assumption)
      obtain ⟨d1, d2⟩ := heldC g i q.1 q.2 (w3 := w3) (w := w10) (by assumption)
      have hBz := hB3.trans (hS10.mono hB3.size)
      have hgz : g < w10.heap.size := Nat.lt_of_lt_of_le hgl hS10.size
      have o1 := last.On.cell d1 hgz
      have o2 := last.On.cell d2 hgz
      have hinh := last.On.inh w10.heap.size w10
      by_cases hPe : P = []
      · subst hPe
        clear HC1 HC2 HC3 H4
        go_wp2_with fail
        refine last.wp_region_on w10.heap.size (by kernel_rfl) (by kernel_rfl) ?_
        repeat (go_big_quiet_step ((fail)))
        refine wpQuiet_nil ?_
        intro w11 hw11
        obtain ⟨x11, hw11⟩ := hw11
        subst hw11
        have hB11 := hBz.trans (x11.2.mono hBz.size)
        go_wp2_with fail
        go_ret
        exact ⟨rfl, hB11⟩
      · have hPp := List.length_pos_iff.2 hPe
        have hdl : (P.drop 1).length = P.length - 1 := by simp
        obtain ⟨k, hk⟩ : ∃ k, P.length = k + 1 := ⟨P.length - 1, by omega⟩
        have hd1 := fun s hs => hPlim s (List.mem_of_mem_drop (i := 1) (l := P) hs)
        have h4 := H4.out hPe
        have hP10 := hPw w10 hS10
        have hcpP1 := hcpP.1
        have hk0 : ¬ k + 1 = 0 := by omega
        have hkI : ¬ (k : Int) + 1 = 0 := by omega
        have hkb : (((k + 1 : Nat) : Int) == 0) = false := by rw [beq_eq_false_iff_ne]; omega
        have hkb2 : ((k : Int) + 1 == 0) = false := by rw [beq_eq_false_iff_ne]; omega
        have hkc : (1 : Int) ≤ (cp2 : Int) := by omega
        have hkl : (1 : Int) ≤ (k : Int) + 1 := by omega
        by_cases hc1 : cp2 = 1
        · have hkz : k = 0 := by omega
          have hcall : ∀ x : last.On w10.heap.size w10, Calls Tryd.prog 20 #[.agg #[.string q.1, .string q.2], .int .i64 (i : Int), .int .i64 (l.length : Int), .slice (some ⟨g2, 0, none⟩) k (0), .string root] x.w fun e w' => e = .returned (.bool false) ∧ ∃ y : last.On w10.heap.size w10, w' = y.w := fun x => last.Calls.on x (Nat.le_refl _) (by
            have hx := hS10.trans (x.2.mono hS10.size)
            have := impl_checkPath q (i : Int) (l.length : Int) g2 0 (0) (P.drop 1) root x.w hpi ((by rw [show P.drop 1 = [] from List.drop_eq_nil_of_le (by omega)]; exact sls_nil _ _)) hd1 (by omega) (by unfold maxLen; omega) (WalkArith.wf_i64 (by omega)) (WalkArith.wf_i64 (by omega)) (hKw _ hx)
            rw [h4, hdl, hk] at this
            exact this)
          subst hc1 hkz
          clear HC1 HC2 HC3 H4 h4 hd1 hP10 hdl
          go_wp2_with fail
          refine last.wp_region_on w10.heap.size (by kernel_rfl) (by kernel_rfl) ?_
          repeat (go_big_quiet_step ((go_at_call 20; with_reducible exact hcall _)))
          refine wpQuiet_nil ?_
          intro w11 hw11
          obtain ⟨x11, hw11⟩ := hw11
          subst hw11
          have hB11 := hBz.trans (x11.2.mono hBz.size)
          go_wp2_with fail
          go_ret
          exact ⟨rfl, hB11⟩
        · have hcall : ∀ x : last.On w10.heap.size w10, Calls Tryd.prog 20 #[.agg #[.string q.1, .string q.2], .int .i64 (i : Int), .int .i64 (l.length : Int), .slice (some ⟨g2, 1, none⟩) k (cp2 - 1), .string root] x.w fun e w' => e = .returned (.bool false) ∧ ∃ y : last.On w10.heap.size w10, w' = y.w := fun x => last.Calls.on x (Nat.le_refl _) (by
            have hx := hS10.trans (x.2.mono hS10.size)
            have := impl_checkPath q (i : Int) (l.length : Int) g2 1 (cp2 - 1) (P.drop 1) root x.w hpi ((by have := sls_drop1 (hPw _ hx); exact this)) hd1 (by omega) (by unfold maxLen; omega) (WalkArith.wf_i64 (by omega)) (WalkArith.wf_i64 (by omega)) (hKw _ hx)
            rw [h4, hdl, hk] at this
            exact this)
          clear HC1 HC2 HC3 H4 h4 hd1 hP10 hdl
          go_wp2_with fail
          refine last.wp_region_on w10.heap.size (by kernel_rfl) (by kernel_rfl) ?_
          repeat (go_big_quiet_step ((go_at_call 20; with_reducible exact hcall _)))
          refine wpQuiet_nil ?_
          intro w11 hw11
          obtain ⟨x11, hw11⟩ := hw11
          subst hw11
          have hB11 := hBz.trans (x11.2.mono hBz.size)
          go_wp2_with fail
          go_ret
          exact ⟨rfl, hB11⟩

set_option maxRecDepth 100000 in
theorem lifted (os : Os) (started : os.Started) (H : Type) (enc : TypeId × Value → H) :
    ReturnsInHanded {} Tryd.checked os 4 .any (fun w args => (Rows.fnPathsSpec.pre enc Tryd.prog Tryd.f4 [] false w args ∧ laidMetH Tryd.prog door.laidD w) ∧ sizedMet enc Tryd.prog Tryd.f4 (OpenSpec.ofChange Rows.fnPathsSpec) false w args)
      (Rows.fnPathsSpec.post enc Tryd.prog Tryd.f4 false true false false) := by
  refine returnsInHanded_of_change_and (C := Tryd.checked) (X := fun w _ => laidMetH Tryd.prog door.laidD w) (fun _ _ _ hh h => h.of_heap hh) door.own started (by kernel_rfl) Tryd.func4
    (ChangeSpec.witness_shaped (enc := enc) (C := Tryd.checked) (os := os) (X := fun w _ => laidMetH Tryd.prog door.laidD w) false (World.laidAll Tryd.prog os door.laidD) #[.slice none 0 0] 70 (World.laidAll_os _ _ _) (World.shaped_of_ZipB (by kernel_rfl) (by kernel_rfl)) (by kernel_rfl) (by kernel_rfl) (by kernel_rfl)
      (by rw [MakeChecks.laidMetH_plain _ _ _ (by kernel_rfl)]; exact laidMet_laidAll _ (by kernel_rfl) (by kernel_rfl))) ?_
  intro W base args ds gs before hval0 hW _ _ hL _
  have hval : ∀ (j : Nat) t v, Tryd.f4.params[j]? = some t → args[j]? = some v → Value.okWide Tryd.prog W .any base t v := hval0
  have hW' := hW
  obtain ⟨p, q, hA0, hV, rfl, hfz, hnd⟩ := hW
  have hA : DataW.TrodAll enc Tryd.prog W 0 (fun _ => true) true Tryd.f4.params.toList args.toList ds p := hA0
  rw [Tryd.params4] at hA hval
  obtain ⟨v0, vs0, d0, ds0, p0, q0, hargs, rfl, rfl, h0, r0⟩ := trodAll_cons hA
  obtain ⟨rfl, rfl, rfl⟩ := trodAll_nil r0
  obtain rfl : args = #[v0] := by cases args; simp_all
  obtain ⟨gv, tv, csv, fv, dv, pv, rfl, _, _, _, _, _⟩ := trodVars_one (show DataW.TrodVars enc Tryd.prog W (fun _ => true) ["loop.example/g00244/impl.roundWords"] gs q from hV)
  obtain ⟨a0, len0, cap0, rfl⟩ := okWide_slice Tryd.underlying22 (hval 0 22 v0 rfl rfl)
  have k0 := h0
  have lt0 : ∀ x ∈ p0, x.block < W.heap.size := by obtain ⟨m, hm⟩ := k0; exact DataW.trod_lt m _ _ _ hm
  obtain ⟨b0, w0⟩ : ∃ bs, Sl W a0 len0 bs := by
    obtain ⟨fuel, hf⟩ := h0
    rcases open_ints Tryd.underlying22 Tryd.underlying5 (by kernel_rfl) hf with ⟨hcs, _⟩ | ⟨x, l, c, zs, hcs, _, hl, hm, hz, _, hcell, hwz⟩
    · simp [Value.cells] at hcs
      obtain ⟨rfl, rfl, rfl⟩ := hcs
      exact ⟨[], sl_nil _ _⟩
    · simp [Value.cells] at hcs
      obtain ⟨rfl, rfl, rfl⟩ := hcs
      exact ⟨_, sl_of_ints hl hm (by simpa using hz) hcell hwz⟩
  clear hA0 hval0
  refine (walk a0 len0 cap0 b0 W w0 (door.words_of_laid hL)).mono fun e W' ⟨he, bel⟩ => ?_
  subst he
  exact ⟨_, rfl, _, _, _, [], _, _, hW', trodAll_mk1 (shut_bool Tryd.underlying4 _), (trodAll_cons_mk (Below.trod door.laidOut (by kernel_rfl) (of_decide_eq_true (by kernel_rfl)) k0 bel lt0) trodAll_mk0), bel.trodVars door.laidOut (by kernel_rfl) hV, bel.frame _, fun h => by cases h⟩

theorem over : Rows.fnPathsRow.holds Tryd.pinned (OpenSpec.ofChange Rows.fnPathsSpec) :=
  OpenClaim.holds_of_wide 4 Tryd.f4 rfl rfl rfl rfl rfl rfl rfl ⟨rfl, rfl, rfl, rfl, rfl⟩ rfl rfl rfl rfl rfl (by kernel_rfl) Tryd.func4 (by kernel_rfl)
    (of_decide_eq_true (by kernel_rfl)) (by unfold Func.isWrapper; first | (rw [if_pos (by decide +kernel)]; kernel_rfl) | (rw [if_neg (by decide +kernel)]; exact ⟨rfl, rfl⟩))
    (fun os started H enc _ => lifted os started H enc)

theorem proved : Rows.FnPathsCardSaid :=
  Claim7.holds_tied_plain_at .later [] [.data] true (true, "dfb7ab1afdd0456eb5052fbcc97e9b7e967708949465dbf1114ff3a655c124d1") false
    over (fun _ h => by cases h) (by kernel_rfl) (fun _ h => by cases h) fnPaths_row_tie rfl ⟨rfl, rfl⟩ (by kernel_rfl) rfl
    (fun f fn hf hfn => by
      obtain rfl : f = 4 := Option.some.inj ((show Tryd.prog.funcNamed "loop.example/g00244/laws.FnPaths" = some 4 by kernel_rfl).symm.trans hf) |>.symm
      obtain rfl : fn = Tryd.f4 := (Option.some.inj (Tryd.func4.symm.trans hfn)).symm
      exact ⟨by kernel_rfl, fun j t ht => by
        rw [Tryd.params4] at ht
        have hm : t ∈ [22] := by simpa using Array.mem_of_getElem? ht
        have hall : ([22].all fun u => !Tryd.prog.wantsStandIn u) = true := by kernel_rfl
        exact (show Tryd.prog.wantsStandIn t = false by simpa using List.all_eq_true.1 hall t hm)⟩)
    (by kernel_rfl)
end Go.Proofs.YtmdhkoiimffmlaaDoor.fnPaths
