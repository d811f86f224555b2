/- A map of orders by their transactions, that the call itself made. A map of rows of orders that the call itself made: small facts on worlds; no function of the program is named here. The contract of slices.Sort at []int, as the library proves it, at this program. The program's orders by shards: a map of rows, one shard's row, and the shards in order. -/
import Derived.Test.YtggihjmcafoppaaShah
import Derived.Test.YtggihjmcafoppaaShai
import Derived.Test.YtggihjmcafoppaaShac
import Derived.Test.YtggihjmcafoppaaShab
import Derived.Maps.OwnSet
import Derived.Maps.OwnOps
import Derived.Maps.Views
import Derived.Maps.AppendAt
import Derived.Maps.RangeWalk
import Derived.Shelf.Sort.Plain
import Derived.Shelf.Slices.In.SortNone
import Derived.Test.YtggihjmcafoppaaProg
import Derived.Sort.OwnSortedInts
namespace Go.Proofs.Ytggihjmcafoppaa.wos
open Go Go.RowKit Go.Proofs.Ytggihjmcafoppaa.base Go.Proofs.Ytggihjmcafoppaa.pairs Go.Proofs.Ytggihjmcafoppaa.ords Go.Proofs.Ytggihjmcafoppaa.lay
open Go.ChangeMaps Go.MapKept
open Go.Maps (keyOf_int_mk)
set_option linter.unusedVariables false
set_option linter.unusedSimpArgs false

def ordL : List Value → Option (DataW Unit × List MemPlace)
  | [.int .i64 t, .slice none n c] => some (recs.codeR 0 t none n c, [])
  | [.int .i64 t, .slice (some ⟨b, o, none⟩) n c] => some (recs.codeR 0 t (some ⟨b, o, none⟩) n c, [])
  | _ => none
def ordE : Value → Option (DataW Unit × List MemPlace)
  | .agg xs => ordL xs.toList
  | _ => none
theorem ordE_mk (t : Int) {a : Option Addr} (n c : Nat) (h : recs.Plain a) : ordE (.agg #[.int .i64 t, .slice a n c]) = some (recs.codeR 0 t a n c, []) := by
  rcases h with rfl | ⟨b, o, rfl⟩ <;> rfl
theorem ordE_inv {v : Value} {z : DataW Unit × List MemPlace} (h : ordE v = some z) : ∃ t a n c, recs.Plain a ∧ v = .agg #[.int .i64 t, .slice a n c] ∧ z = (recs.codeR 0 t a n c, []) := by
  unfold ordE at h
  split at h
  · next xs =>
    unfold ordL at h
    split at h
    · next t n c e =>
      cases h
      exact ⟨t, none, n, c, .inl rfl, by rw [← e], rfl⟩
    · next t b o n c e =>
      cases h
      exact ⟨t, some ⟨b, o, none⟩, n, c, .inr ⟨b, o, rfl⟩, by rw [← e], rfl⟩
    · cases h
  · cases h
theorem zeroOrd (w : World) : (zeroValue 80).run Try.prog w = .ok (.agg #[.int .i64 0, .slice none 0 0]) w := by kernel_rfl
def valO : Option Orr → Orr
  | none => (0, [])
  | some o => o
def OrdM (w0 w : World) (B n : Nat) (f : Int → Option Orr) : Prop :=
  ∃ D : DataW Unit, w.ownsMap Try.prog 3 ordE B n D ∧ Maps.IsMap D ∧
    ∀ s : Int, (Lit.int .i64 s).wf = true → Maps.has D (.int .i64 s) = (f s).isSome ∧ ∃ a m c, recs.Plain a ∧ SlO w0 a m (valO (f s)).2 ∧ m ≤ c ∧ D.atKey (.int .i64 s) (recs.codeR 0 0 none 0 0) = recs.codeR 0 (valO (f s)).1 a m c
theorem ordM_made (w0 w : World) : OrdM w0 (w.alloc (.map #[] 0)) w.heap.size 0 (fun _ => none) :=
  ⟨.map [], World.ownsMap_made _ _ _ _, Maps.isMap_empty, fun s _ => ⟨rfl, none, 0, 0, .inl rfl, slo_nil _ _, Nat.le_refl _, rfl⟩⟩
section
variable {w0 w w' : World} {B n : Nat} {f : Int → Option Orr}
theorem OrdM.lt (h : OrdM w0 w B n f) : B < w.heap.size := by
  obtain ⟨D, ⟨es, clock, hb, _⟩, _⟩ := h
  exact (Array.getElem?_eq_some_iff.1 hb).1
theorem OrdM.keep (h : OrdM w0 w B n f) (hb : w'.heap[B]? = w.heap[B]?) : OrdM w0 w' B n f := by
  obtain ⟨D, ⟨es, clock, h1, h2⟩, h3, h4⟩ := h
  exact ⟨D, ⟨es, clock, hb.trans h1, h2⟩, h3, h4⟩
theorem OrdM.below (h : OrdM w0 w B n f) (hb : Below w.heap.size w w') : OrdM w0 w' B n f := h.keep (hb.block B h.lt)
theorem OrdM.ask (h : OrdM w0 w B n f) {s : Int} (hs : (Lit.int .i64 s).wf = true) : ∃ a m c, recs.Plain a ∧ SlO w0 a m (valO (f s)).2 ∧ (Instr.lookup 82 (.map (some B)) (.int .i64 s) true).run Try.prog w = .ok (.tuple #[.agg #[.int .i64 (valO (f s)).1, .slice a m c], .bool (f s).isSome]) w := by
  obtain ⟨D, h1, h3, h4⟩ := h
  obtain ⟨hh, a, m, c, h5, h6, _, h7⟩ := h4 s hs
  obtain ⟨v, ps, hrun, hR⟩ := h1.look_ok recs.intLawR Try.underlying82 (zeroOrd w) (ordE_mk 0 0 0 (.inl rfl)) (keyOf_int_mk (P := Try.prog) Try.underlying3 hs)
  rw [h7] at hR
  obtain ⟨t', a', n', c', hp, hv, hz⟩ := ordE_inv hR
  obtain ⟨_, e2, e3, e4, e5⟩ := recs.codeR_inj h5 hp (congrArg Prod.fst hz)
  refine ⟨a, m, c, h5, h6, ?_⟩
  rw [hrun, hh, hv, e2, e3, e4, e5]
theorem OrdM.look (h : OrdM w0 w B n f) {s : Int} (hs : (Lit.int .i64 s).wf = true) : ∃ a m c, recs.Plain a ∧ SlO w0 a m (valO (f s)).2 ∧ m ≤ c ∧ ∀ w2 : World, w2.heap[B]? = w.heap[B]? → (Instr.lookup 82 (.map (some B)) (.int .i64 s) false).run Try.prog w2 = .ok (.agg #[.int .i64 (valO (f s)).1, .slice a m c]) w2 := by
  obtain ⟨D, ⟨es, clock, hb, F, hn, rfl⟩, h3, h4⟩ := h
  obtain ⟨_, a, m, c, h5, h6, hmc, h7⟩ := h4 s hs
  have hkey := keyOf_int_mk (P := Try.prog) Try.underlying3 hs
  refine ⟨a, m, c, h5, h6, hmc, fun w2 hw2 => ?_⟩
  rcases Maps.fit_look false recs.intLawR Try.underlying82 (zeroOrd w2) (hw2.trans hb) F hkey with ⟨hrun, _, hat⟩ | ⟨e0, y, _, _, hrun, hRv, hat, _⟩
  · rw [hat] at h7
    obtain ⟨_, e2, e3, e4, e5⟩ := recs.codeR_inj (.inl rfl) h5 h7
    rw [hrun, ← e2, ← e3, ← e4, ← e5]; rfl
  · rw [hat] at h7
    obtain ⟨t', a', n', c', hp, hv, hz⟩ := ordE_inv hRv
    rw [hz] at h7
    obtain ⟨_, e2, e3, e4, e5⟩ := recs.codeR_inj hp h5 h7
    rw [hrun, hv, ← e2, ← e3, ← e4, ← e5]; rfl
def updO (f : Int → Option Orr) (s : Int) (o : Orr) (t : Int) : Option Orr := if t = s then some o else f t
theorem OrdM.store (h : OrdM w0 w B n f) (hn : n < maxLen) {s : Int} (hs : (Lit.int .i64 s).wf = true) {r : Orr} {a : Option Addr} {m c : Nat} (ha : recs.Plain a) (hS : SlO w0 a m r.2) (hmc : m ≤ c) :
    ∃ w2, (Instr.mapUpdate 82 (.map (some B)) (.int .i64 s) (.agg #[.int .i64 r.1, .slice a m c])).run Try.prog w = .ok () w2 ∧ OrdM w0 w2 B (n + 1) (updO f s r) ∧ w.grownBy w2 (some B) := by
  obtain ⟨D, h1, h3, h4⟩ := h
  have hkey := keyOf_int_mk (P := Try.prog) Try.underlying3 hs
  obtain ⟨w2, hrun, hown, hturn⟩ := h1.store recs.intLawR Try.underlying82 hn hkey (ordE_mk r.1 m c ha)
  refine ⟨w2, hrun, ⟨_, hown, h3.put _ _, fun t ht => ?_⟩, hturn.grown⟩
  unfold updO
  by_cases e : t = s
  · subst e
    rw [if_pos rfl]
    exact ⟨Maps.has_put_same h3 (by trivial) _, a, m, c, ha, hS, hmc, Maps.atKey_put_same h3 (by trivial) _ _⟩
  · rw [if_neg e]
    obtain ⟨h8, a', m', c', h5, h6, h9, h7⟩ := h4 t ht
    have hne : (Lit.int .i64 t) ≠ .int .i64 s := by intro e2; exact e (by cases e2; rfl)
    exact ⟨by rw [Maps.has_put_other hne, h8], a', m', c', h5, h6, h9, by rw [Maps.atKey_put_other hne, h7]⟩
end
theorem wpList_store_ord {w0 w : World} {ops : Array Oper} {rest : List Oper} {o : Oper} {a : Act} {Q : Exit → Act → World → Prop} (hg : o.guard = none) (m x v : Operand) (hop : o.op = Op.mapUpdate 82 m x v)
    {B n : Nat} {f : Int → Option Orr} (hm : a.eval m = .map (some B)) (h : OrdM w0 w B n f) (hn : n < maxLen) {s : Int} (hx : a.eval x = .int .i64 s) (hs : (Lit.int .i64 s).wf = true) {r : Orr} {ad : Option Addr} {mm c : Nat} (hv : a.eval v = .agg #[.int .i64 r.1, .slice ad mm c]) (ha : recs.Plain ad) (hS : SlO w0 ad mm r.2) (hmc : mm ≤ c)
    (hK : ∀ w2, OrdM w0 w2 B (n + 1) (updO f s r) → w.grownBy w2 (some B) → wpList Try.prog ops Q rest (a.put o.dst undef) w2) : wpList Try.prog ops Q (o :: rest) a w := by
  refine wpList_plain hg fun K' hK' => ?_
  obtain ⟨w2, hrun, r1, r2⟩ := h.store hn hs (c := c) ha hS hmc
  unfold Oper.wp
  simp [execOp, hop, hm, hx, hv, hrun, Result.andThen]
  exact hK' _ _ (hK w2 r1 r2)
set_option maxRecDepth 100000 in
set_option maxHeartbeats 1000000 in
theorem i_ohas (w0 : World) (B m : Nat) (f : Int → Option Orr) (tx : Int) (w : World) (h : OrdM w0 w B m f) (hw : (Lit.int .i64 tx).wf = true) :
    Calls Try.prog 55 #[.map (some B), .int .i64 tx] w fun e w' => e = .returned (.bool (f tx).isSome) ∧ Below w.heap.size w w' := by
  obtain ⟨a, n, c, _, _, hlk⟩ := h.ask hw
  generalize (valO (f tx)).1 = t at *
  generalize (f tx).isSome = r at *
  clear h hw
  go_enter Try.func55, Try.ntmps55
  go_wp2_with fail
  go_ret
  exact ⟨rfl, below_make⟩
def firstO (l : List Orr) (tx : Int) : Option Orr := l.find? fun o => decide (o.1 = tx)
theorem firstO_take {l : List Orr} {k : Nat} (hk : k < l.length) : firstO (l.take (k + 1)) = if (firstO (l.take k) l[k].1).isSome = true then firstO (l.take k) else updO (firstO (l.take k)) l[k].1 l[k] := by
  funext s
  have e1 : firstO (l.take (k + 1)) s = (firstO (l.take k) s).or (if l[k].1 = s then some l[k] else none) := by
    unfold firstO
    rw [List.take_succ_eq_append_getElem hk, List.find?_append]
    congr 1
    by_cases e : l[k].1 = s
    · simp [e]
    · simp [e]
  rw [e1]
  by_cases h : (firstO (l.take k) l[k].1).isSome = true
  · rw [if_pos h]
    by_cases e : l[k].1 = s
    · subst e
      obtain ⟨o, ho⟩ := Option.isSome_iff_exists.1 h
      rw [ho]; rfl
    · rw [if_neg e]; simp
  · rw [if_neg h]
    unfold updO
    by_cases e : s = l[k].1
    · subst e
      have : firstO (l.take k) l[k].1 = none := by simpa using h
      rw [this]; simp
    · rw [if_neg e, if_neg (fun e2 => e e2.symm)]; simp
def PlainO (w : World) (a : Option Addr) (n : Nat) : Prop := ∀ b off, a = some ⟨b, off, none⟩ → ∀ i, i < n → ∀ pa pl pc, w.cell? ⟨b, off + i * 2 + 1, none⟩ = some (.slice pa pl pc) → recs.Plain pa
def RetM (w : World) (f : Int → Option Orr) (e : Ending) (w' : World) : Prop := ∃ B m, e = .returned (.map (some B)) ∧ OrdM w w' B m f ∧ Below w.heap.size w w'
set_option maxRecDepth 100000 in
set_option maxHeartbeats 4000000 in
theorem i_firstOrders (a : Option Addr) (n cap : Nat) (l : List Orr) (w : World) (h : SlG ordR w a n l) (hp : PlainO w a n) (hn : n ≤ 1048576) :
    Calls Try.prog 52 #[.slice a n cap] w (RetM w (firstO l)) := by
  have hl := h.1
  have HL := Hid.mk' hl
  have hm0 := ordM_made w w
  have hb0 : Below w.heap.size w (w.alloc (.map #[] 0)) := below_make
  have HF0 : Hid (firstO (l.take 0) = fun _ => none) := by show _ = _; funext s; rfl
  have hmm : ∀ wx : World, (Instr.makeMap 82 none).run Try.prog wx = .ok (.map (some wx.heap.size)) (wx.alloc (.map #[] 0)) := fun wx => by kernel_rfl
  clear hl
  go_enter Try.func52, Try.ntmps52
  go_wp2_with (at_builtin; fail)
  go_loopw [9] (fun i wr => ∃ k m : Nat, k ≤ n ∧ m ≤ k ∧ i = .int .i64 (k : Int) ∧ Below w.heap.size w wr ∧ OrdM w wr w.heap.size m (firstO (l.take k))) (fun i _ => n - (intOf i).toNat)
  case atStart => exact ⟨0, 0, Nat.zero_le _, Nat.le_refl _, rfl, hb0, by rw [HF0.out]; exact hm0⟩
  case round =>
    clear hm0 hb0
    obtain ⟨k, m, hk, hmk, rfl, hb, hM⟩ := hrel
    by_cases hlt : k < n
    · have hki : (k : Int) < (n : Int) := by omega
      have hkl : k < l.length := by have := HL.out; omega
      obtain ⟨b, off, ha⟩ := cos.slg_some h (by omega)
      subst ha
      obtain ⟨c0, oa, ol, oc, c1, hSo, hoc⟩ := ord_at h k hkl
      have hpl := hp b off rfl k hlt oa ol oc c1
      have hw1 : (Lit.int .i64 l[k].1).wf = true := by
        obtain ⟨vs, hv⟩ := h.2.2.1 _ (List.getElem_mem hkl)
        obtain ⟨_, _, _, _, k1, _⟩ := ord_see.1 hv
        exact k1
      have d0 := (hb.cell (p := ⟨b, off + k * 2, none⟩) (World.block_lt_of_cell? _ _ c0)).trans c0
      have d1 := (hb.cell (p := ⟨b, off + k * 2 + 1, none⟩) (World.block_lt_of_cell? _ _ c1)).trans c1
      have HT := Hid.mk' (firstO_take hkl)
      generalize l[k] = o at *
      obtain ⟨u1, hu1⟩ : ∃ u1, wr.alloc (.cells #[.int .i64 o.1, .slice oa ol oc] 80) = u1 := ⟨_, rfl⟩
      have hbu : Below wr.heap.size wr u1 := by rw [← hu1]; exact below_make
      have hX := boxIn_new wr [.int .i64 o.1, .slice oa ol oc] 80
      rw [hu1] at hX
      obtain ⟨x0, x1⟩ := cells2 hX
      rw [← hu1] at x0 x1
      have hMu := hM.below hbu
      have HH := Hid.mk' (i_ohas w w.heap.size m (firstO (l.take k)) o.1 u1 hMu hw1)
      have HU := Hid.mk' hu1
      have hbw := hb.trans (hbu.mono hb.size)
      have hBlt := hMu.lt
      clear hu1 c0 c1
      cases hs : (firstO (l.take k) o.1).isSome
      · rw [hs] at HH HT
        clear hs
        go_wp2_with fail
        rw [HU.out]
        refine HH.out.mono ?_
        rintro e w2 ⟨rfl, hb2⟩
        obtain ⟨x0, x1⟩ := cells2 (hX.below hb2)
        have hM2 := hMu.below hb2
        have hbw2 := hbw.trans (hb2.mono hbw.size)
        clear HH HU
        go_wp2_with (refine wpList_store_ord rfl _ _ _ rfl rfl hM2 (by unfold maxLen; omega) rfl hw1 (r := o) rfl hpl hSo hoc ?_)
        intro w3 hM3 hg3
        have hb3 : Below w.heap.size w w3 := hbw2.grown hg3 hbw2.size (fun j e => by cases e; exact Nat.le_refl _)
        go_wp2_with fail
        go_roundw
        case rel => exact ⟨k + 1, m + 1, by omega, by omega, by go_num, hb3, by rw [HT.out]; exact hM3⟩
        case measure => simp [intOf]; omega
      · rw [hs] at HH HT
        clear hs
        go_wp2_with fail
        rw [HU.out]
        refine HH.out.mono ?_
        rintro e w2 ⟨rfl, hb2⟩
        have hM2 := hMu.below hb2
        have hbw2 := hbw.trans (hb2.mono hbw.size)
        clear HH HU
        go_wp2_with fail
        go_roundw
        case rel => exact ⟨k + 1, m, by omega, by omega, by go_num, hbw2, by rw [HT.out]; exact hM2⟩
        case measure => simp [intOf]; omega
    · have hki : ¬ (k : Int) < (n : Int) := by omega
      have HE : Hid (l.take k = l) := List.take_of_length_le (by have := HL.out; omega)
      go_wp2_with fail
      go_ret
      exact ⟨_, m, rfl, by rw [HE.out] at hM; exact hM, hb⟩
end Go.Proofs.Ytggihjmcafoppaa.wos

namespace Go.Proofs.Ytggihjmcafoppaa.ords
open Go Go.RowKit Go.Proofs.Ytggihjmcafoppaa.base Go.Proofs.Ytggihjmcafoppaa.pairs
open Go.ChangeMaps Go.MapKept
open Go.WideElems (Fit rd rg pl rd_val rd_key rg_of)
open Go.Maps (Keyed)
open Go.Maps (keyOf_int_mk)
set_option linter.unusedVariables false
set_option linter.unusedSimpArgs false

theorem intLaw : Keyed Try.prog 3 := Maps.int_keyed Try.underlying3
def noR : Value → Option (DataW Unit × List MemPlace) := fun _ => some (.nil, [])
def KeysD (es : Array MapEntry) (D : DataW Unit) : Prop := D = .map ((es.toList.map (rg Try.prog 3 noR)).foldr DataW.insert [])
def upd (f : Int → List Od) (s : Int) (l : List Od) (t : Int) : List Od := if t = s then l else f t
theorem upd_same (f : Int → List Od) (s : Int) (l : List Od) : upd f s l s = l := if_pos rfl
theorem upd_other {f : Int → List Od} {s t : Int} {l : List Od} (h : t ≠ s) : upd f s l t = f t := if_neg h
def Groups (w : World) (B base n : Nat) (f : Int → List Od) : Prop :=
  ∃ es clock, w.heap[B]? = some (.map es clock) ∧ Fit Try.prog 3 noR es clock ∧ es.size ≤ n ∧ B < base ∧
    (∀ x ∈ es.toList, ∃ (s : Int) (g m cp : Nat), x.key = .int .i64 s ∧ x.val = .slice (some ⟨g, 0, none⟩) m cp ∧ f s ≠ [] ∧ OwnO w base g m cp (f s)) ∧
    (∀ D, KeysD es D → ∀ s, (Lit.int .i64 s).wf = true → (Maps.has D (.int .i64 s) = true ↔ f s ≠ [])) ∧
    ∀ x ∈ es.toList, ∀ y ∈ es.toList, x.key ≠ y.key → x.val.ownBlock ≠ y.val.ownBlock
section
variable {w w' : World} {B base n : Nat} {f : Int → List Od} {row : Option Nat}
theorem groups_made (w : World) : Groups (w.alloc (.map #[] 0)) w.heap.size (w.heap.size + 1) 0 (fun _ => []) :=
  ⟨#[], 0, (MapKept.heap_alloc w _).1, ⟨by simp, stamped_empty 0, by simp⟩, Nat.le_refl _, Nat.lt_succ_self _, by simp, fun D hD s _ => by unfold KeysD at hD; subst hD; simp [Maps.has], by simp⟩
theorem Groups.lt (h : Groups w B base n f) : B < w.heap.size := by
  obtain ⟨es, clock, hb, _⟩ := h
  exact (Array.getElem?_eq_some_iff.1 hb).1
theorem Groups.size (h : Groups w B base n f) : B < base := by
  obtain ⟨es, clock, hb, _, _, h1, _⟩ := h
  exact h1
theorem Groups.grown (h : Groups w B base n f) (hg : w.grownBy w' row) (hB : some B ≠ row) (hr : ∀ j, row = some j → j < base) : Groups w' B base n f := by
  have hlt := h.lt
  obtain ⟨es, clock, hb, F, hs, hbb, hel, hhas, hap⟩ := h
  refine ⟨es, clock, (hg.block B hlt hB).trans hb, F, hs, hbb, fun x hx => ?_, hhas, hap⟩
  obtain ⟨s, g, m, cp, h1, h2, h3, h4⟩ := hel x hx
  exact ⟨s, g, m, cp, h1, h2, h3, h4.grown hg (fun e => by have := hr g e.symm; have := h4.lt; omega)⟩
theorem Groups.below (h : Groups w B base n f) (hb : Below w.heap.size w w') : Groups w' B base n f :=
  h.grown (row := none) ⟨hb.os, hb.tape, hb.output, hb.size, fun k hk _ => hb.block k hk⟩ (by simp) (fun j e => by cases e)
theorem Groups.owns (h : Groups w B base n f) : ∃ D, w.ownsMap Try.prog 3 noR B n D ∧ Maps.IsMap D ∧ ∀ s, (Lit.int .i64 s).wf = true → (Maps.has D (.int .i64 s) = true ↔ f s ≠ []) := by
  obtain ⟨es, clock, hb, F, hs, hbb, hel, hhas, hap⟩ := h
  exact ⟨_, ⟨es, clock, hb, F, hs, rfl⟩, ⟨_, rfl⟩, hhas _ rfl⟩

def Back (w : World) (B base n : Nat) (f : Int → List Od) (s : Int) (v : Value) : Prop :=
  ∀ (w1 : World) (g m cp : Nat) (l' : List Od), w.grownBy w1 v.ownBlock → OwnO w1 base g m cp l' → l' ≠ [] → (some g = v.ownBlock ∨ w.heap.size ≤ g) →
    ∃ w2, (Instr.mapUpdate 151 (.map (some B)) (.int .i64 s) (.slice (some ⟨g, 0, none⟩) m cp)).run Try.prog w1 = .ok () w2 ∧
      Groups w2 B base (n + 1) (upd f s l') ∧ w1.grownBy w2 (some B)

theorem groups_back {es : Array MapEntry} {clock : Nat} {s : Int} {v : Value} (hsw : (Lit.int .i64 s).wf = true) (hb : w.heap[B]? = some (.map es clock)) (F : Fit Try.prog 3 noR es clock) (hs : es.size ≤ n) (hn : n < maxLen) (hbb : B < base)
    (hel : ∀ x ∈ es.toList, ∃ (s : Int) (g m cp : Nat), x.key = .int .i64 s ∧ x.val = .slice (some ⟨g, 0, none⟩) m cp ∧ f s ≠ [] ∧ OwnO w base g m cp (f s))
    (hhas : ∀ D, KeysD es D → ∀ s, (Lit.int .i64 s).wf = true → (Maps.has D (.int .i64 s) = true ↔ f s ≠ []))
    (hap : ∀ x ∈ es.toList, ∀ y ∈ es.toList, x.key ≠ y.key → x.val.ownBlock ≠ y.val.ownBlock)
    (hv : ∀ x ∈ es.toList, x.key ≠ .int .i64 s → x.val.ownBlock ≠ v.ownBlock) (hvb : v.ownBlock ≠ some B) : Back w B base n f s v := by
  intro w1 g m cp l' hg hO' hne' hloc
  have hblt : B < w.heap.size := (Array.getElem?_eq_some_iff.1 hb).1
  have hb1 : w1.heap[B]? = some (.map es clock) := (hg.block B hblt (fun e1 => hvb e1.symm)).trans hb
  have hkey := keyOf_int_mk (P := Try.prog) Try.underlying3 hsw
  obtain ⟨es', clock', hrun, F', hput, _, _, hwho⟩ := Maps.fit_store (R := noR) (R' := noR) (val := .slice (some ⟨g, 0, none⟩) m cp) intLaw Try.underlying151 hb1 F (Nat.lt_of_le_of_lt hs hn) (fun x hx _ z hz => hz) hkey (yv := (.nil, [])) rfl
  have hg2 : w1.grownBy (setBlock w1 B (.map es' clock')) (some B) := ⟨rfl, rfl, rfl, by simp [setBlock], fun i _ hi => heap_setBlock_other hb1 _ (fun e1 => hi (by rw [e1]))⟩
  obtain ⟨D0, hD0⟩ : ∃ D, KeysD es D := ⟨_, rfl⟩
  have hD : ∀ D', KeysD es' D' → D' = D0.put (.int .i64 s) .nil := by intro D' h'; unfold KeysD at h' hD0; rw [h', hD0, DataW.put_eq, hput]
  have hD1 : Maps.IsMap D0 := ⟨_, hD0⟩
  have hgb := hO'.lt
  refine ⟨_, hrun, ⟨es', clock', heap_setBlock_same hb1 _, F', ?_, hbb, ?_, ?_, ?_⟩, hg2⟩
  · have e1 : es'.size = ((es'.toList.map (rg Try.prog 3 noR)).foldr DataW.insert []).length := by rw [length_sorted]; simp
    rw [e1, hput]
    unfold Go.ChangeMaps.putKey
    rw [length_insert]
    have e2 := List.length_filter_le (notKey (.int .i64 s)) ((es.toList.map (rg Try.prog 3 noR)).foldr DataW.insert [])
    rw [length_sorted] at e2
    simp at e2
    omega
  · intro x hx
    rcases hwho x hx with ⟨hx0, hxk⟩ | ⟨hxk, hxv⟩
    · obtain ⟨t, gx, mx, cx, h1, h2, h3, h4⟩ := hel x hx0
      have hts : t ≠ s := fun e => hxk (by rw [h1, e])
      have hgx : some gx ≠ v.ownBlock := fun e => hv x hx0 hxk (by rw [h2]; exact e)
      have := h4.lt
      exact ⟨t, gx, mx, cx, h1, h2, by rw [upd_other hts]; exact h3, by rw [upd_other hts]; exact (h4.grown hg hgx).grown hg2 (fun e => by cases e; omega)⟩
    · exact ⟨s, g, m, cp, hxk, hxv, by rw [upd_same]; exact hne', by rw [upd_same]; exact hO'.grown hg2 (fun e => by cases e; omega)⟩
  · intro D' h' t ht
    rw [hD D' h']
    by_cases e : t = s
    · subst e
      rw [Maps.has_put_same hD1 (by trivial)]
      rw [upd_same]; simpa using hne'
    · rw [Maps.has_put_other (fun e1 => e (by cases e1; rfl)), hhas D0 hD0 t ht, upd_other e]
  · have old_new : ∀ x ∈ es.toList, x.key ≠ .int .i64 s → x.val.ownBlock ≠ some g := by
      intro x hx hxk e1
      rcases hloc with h1 | h1
      · exact hv x hx hxk (by rw [e1, h1])
      · obtain ⟨t, gx, mx, cx, _, h2, _, h4⟩ := hel x hx
        have := h4.lt
        rw [h2] at e1
        simp [Value.ownBlock] at e1
        omega
    intro x hx y hy hne
    rcases hwho x hx with ⟨hx0, hxk⟩ | ⟨hxk, hxv⟩ <;> rcases hwho y hy with ⟨hy0, hyk⟩ | ⟨hyk, hyv⟩
    · exact hap x hx0 y hy0 hne
    · rw [hyv]; exact old_new x hx0 hxk
    · rw [hxv]; exact fun e => old_new y hy0 hyk e.symm
    · exact absurd (hxk.trans hyk.symm) hne

theorem Groups.look (h : Groups w B base n f) {s : Int} (hsw : (Lit.int .i64 s).wf = true) (hn : n < maxLen) :
    ∃ v, (Instr.lookup 151 (.map (some B)) (.int .i64 s) false).run Try.prog w = .ok v w ∧ w.ownsRow base 121 3 v (f s).length (ordVals (f s)) ∧ (∀ p ∈ f s, smallO p) ∧ Back w B base n f s v := by
  obtain ⟨es, clock, hb, F, hs, hbb, hel, hhas, hap⟩ := h
  have hkey := keyOf_int_mk (P := Try.prog) Try.underlying3 hsw
  rcases Maps.fit_look (R := noR) false intLaw Try.underlying151 (z := .slice none 0 0) (by kernel_rfl) hb F hkey with ⟨hrun, hno, hat⟩ | ⟨e0, y, hm0, h3, hrun, hR, hat, _⟩
  · have hf : f s = [] := by
      have := Maps.has_false_of_atKey hat
      have h1 := hhas _ rfl s hsw
      cases hfs : f s with
      | nil => rfl
      | cons a l =>
        have h2 := h1.2 (by rw [hfs]; simp)
        rw [this] at h2; cases h2
    refine ⟨.slice none 0 0, by simpa using hrun, by rw [hf]; exact World.ownsRow_nil _ _ _ _, by rw [hf]; exact fun p hp => absurd hp List.not_mem_nil, groups_back hsw hb F hs hn hbb hel hhas hap (fun x hx _ => ?_) (by simp [Value.ownBlock])⟩
    obtain ⟨t, g, m, cp, _, h2, _, _⟩ := hel x hx
    rw [h2]; simp [Value.ownBlock]
  · obtain ⟨t, g, m, cp, h1, h2, h4, h5⟩ := hel e0 hm0
    obtain rfl : t = s := by rw [h3] at h1; cases h1; rfl
    have hlt := h5.lt
    refine ⟨e0.val, by simpa using hrun, by rw [h2, h5.1]; exact h5.2.2, h5.2.1, groups_back hsw hb F hs hn hbb hel hhas hap (fun x hx hne => hap x hx e0 hm0 (by rw [h3]; exact hne)) ?_⟩
    rw [h2]; simp [Value.ownBlock]; omega
end

theorem wpList_look_groups (w : World) {ops : Array Oper} {rest : List Oper} {o : Oper} {a : Act} {Q : Exit → Act → World → Prop}
    (hg : o.guard = none) (m x : Operand) (hop : o.op = Op.lookup 151 m x false) {B base n : Nat} {f : Int → List Od} {s : Int}
    (hm : a.eval m = .map (some B)) (hx : a.eval x = .int .i64 s) (h : Groups w B base n f) (hsw : (Lit.int .i64 s).wf = true) (hn : n < maxLen)
    (hK : ∀ v, w.ownsRow base 121 3 v (f s).length (ordVals (f s)) → (∀ p ∈ f s, smallO p) → Back w B base n f s v → wpList Try.prog ops Q rest (a.put o.dst v) w) :
    wpList Try.prog ops Q (o :: rest) a w := by
  refine wpList_plain hg fun K' hK' => ?_
  obtain ⟨v, hrun, h1, h2, h3⟩ := h.look hsw hn
  unfold Oper.wp
  simp [execOp, hop, hm, hx, hrun, Result.andThen]
  exact hK' _ _ (hK v h1 h2 h3)
theorem wpList_store_back (w : World) {ops : Array Oper} {rest : List Oper} {o : Oper} {a : Act} {Q : Exit → Act → World → Prop}
    (hg : o.guard = none) (m x y : Operand) (hop : o.op = Op.mapUpdate 151 m x y) {w0 : World} {B base n g k cp : Nat} {f : Int → List Od} {s : Int} {v : Value} {l' : List Od}
    (hback : Back w0 B base n f s v) (hm : a.eval m = .map (some B)) (hx : a.eval x = .int .i64 s) (hy : a.eval y = .slice (some ⟨g, 0, none⟩) k cp)
    (hgr : w0.grownBy w v.ownBlock) (hO : OwnO w base g k cp l') (hne : l' ≠ []) (hloc : some g = v.ownBlock ∨ w0.heap.size ≤ g)
    (hK : ∀ w2, Groups w2 B base (n + 1) (upd f s l') → w.grownBy w2 (some B) → wpList Try.prog ops Q rest (a.put o.dst undef) w2) :
    wpList Try.prog ops Q (o :: rest) a w := by
  refine wpList_plain hg fun K' hK' => ?_
  obtain ⟨w2, hrun, r1, r2⟩ := hback w g k cp l' hgr hO hne hloc
  unfold Oper.wp
  simp [execOp, hop, hm, hx, hy, hrun, Result.andThen]
  exact hK' _ _ (hK w2 r1 r2)
end Go.Proofs.Ytggihjmcafoppaa.ords

namespace Go.Proofs.Ytggihjmcafoppaa.sorts
open Go Go.Proofs Go.Shelf
def ren189 : Go.Shelf.Ren := ⟨fun | 189 => 110 | 125 => 126 | 257 => 125 | 128 => 137 | 129 => 138 | 294 => 128 | 295 => 129 | 296 => 130 | 297 => 131 | 298 => 132 | 299 => 133 | 216 => 134 | 300 => 135 | 301 => 136 | 328 => 139 | 329 => 140 | 330 => 141 | 331 => 142 | 332 => 143 | 215 => 144 | 343 => 145 | n => n, fun | 28 => 123 | 3 => 3 | 46 => 174 | 0 => 0 | 51 => 185 | 53 => 187 | 4 => 4 | 183 => 177 | 182 => 176 | 131 => 182 | 5 => 5 | 9 => 9 | 218 => 188 | 222 => 192 | 228 => 194 | 229 => 195 | n => n, fun | n => n⟩
theorem lays189 : Go.Proofs.Lays.n189 Try.prog ren189 := {
  mixed := by kernel_rfl
  f125 := Try.func126.trans (congrArg some (by kernel_rfl))
  f128 := Try.func137.trans (congrArg some (by kernel_rfl))
  f129 := Try.func138.trans (congrArg some (by kernel_rfl))
  f189 := Try.func110.trans (congrArg some (by kernel_rfl))
  f215 := Try.func144.trans (congrArg some (by kernel_rfl))
  f216 := Try.func134.trans (congrArg some (by kernel_rfl))
  f257 := Try.func125.trans (congrArg some (by kernel_rfl))
  f294 := Try.func128.trans (congrArg some (by kernel_rfl))
  f295 := Try.func129.trans (congrArg some (by kernel_rfl))
  f296 := Try.func130.trans (congrArg some (by kernel_rfl))
  f297 := Try.func131.trans (congrArg some (by kernel_rfl))
  f298 := Try.func132.trans (congrArg some (by kernel_rfl))
  f299 := Try.func133.trans (congrArg some (by kernel_rfl))
  f300 := Try.func135.trans (congrArg some (by kernel_rfl))
  f301 := Try.func136.trans (congrArg some (by kernel_rfl))
  f328 := Try.func139.trans (congrArg some (by kernel_rfl))
  f329 := Try.func140.trans (congrArg some (by kernel_rfl))
  f330 := Try.func141.trans (congrArg some (by kernel_rfl))
  f331 := Try.func142.trans (congrArg some (by kernel_rfl))
  f332 := Try.func143.trans (congrArg some (by kernel_rfl))
  f343 := Try.func145.trans (congrArg some (by kernel_rfl))
  t0 := Try.underlying0
  a0 := Try.isAgg0
  z0 := Try.sizeOf0
  v0 := Try.zeroValue0
  t3 := Try.underlying3
  a3 := Try.isAgg3
  z3 := Try.sizeOf3
  v3 := Try.zeroValue3
  t4 := Try.underlying4
  a4 := Try.isAgg4
  z4 := Try.sizeOf4
  v4 := Try.zeroValue4
  t5 := Try.underlying5
  a5 := Try.isAgg5
  z5 := Try.sizeOf5
  v5 := Try.zeroValue5
  t9 := Try.underlying9
  a9 := Try.isAgg9
  z9 := Try.sizeOf9
  v9 := Try.zeroValue9
  t28 := Try.underlying123
  a28 := Try.isAgg123
  z28 := Try.sizeOf123
  v28 := Try.zeroValue123
  t46 := Try.underlying174
  a46 := Try.isAgg174
  z46 := Try.sizeOf174
  v46 := Try.zeroValue174
  t51 := Try.underlying185
  a51 := Try.isAgg185
  z51 := Try.sizeOf185
  v51 := Try.zeroValue185
  t53 := Try.underlying187
  a53 := Try.isAgg187
  z53 := Try.sizeOf187
  v53 := Try.zeroValue187
  t131 := Try.underlying182
  a131 := Try.isAgg182
  z131 := Try.sizeOf182
  v131 := Try.zeroValue182
  t182 := Try.underlying176
  a182 := Try.isAgg176
  z182 := Try.sizeOf176
  v182 := Try.zeroValue176
  t183 := Try.underlying177
  a183 := Try.isAgg177
  z183 := Try.sizeOf177
  v183 := Try.zeroValue177
  t218 := Try.underlying188
  a218 := Try.isAgg188
  z218 := Try.sizeOf188
  v218 := Try.zeroValue188
  t222 := Try.underlying192
  a222 := Try.isAgg192
  z222 := Try.sizeOf192
  v222 := Try.zeroValue192
  t228 := Try.underlying194
  a228 := Try.isAgg194
  z228 := Try.sizeOf194
  v228 := Try.zeroValue194
  t229 := Try.underlying195
  a229 := Try.isAgg195
  z229 := Try.sizeOf195
  v229 := Try.zeroValue195 }
open Go.Sort Go.RowKit in
theorem sort_int (blk off cap : Nat) (zs : List Int) (w : World) (hH : Holds (Value.int .i64) w blk off zs.toArray) (hblk : blk < w.heap.size) (hsz : zs.length < 4611686018427387904) :
    Calls Try.prog 110 #[.slice (some ⟨blk, off, none⟩) zs.length cap] w fun e w' =>
      e = .returned (.tuple #[]) ∧ ∃ n os, w' = grow (putRow (Value.int .i64) (Sort.ahead w n) blk off (zs.mergeSort fun x y => decide (x ≤ y)).toArray) os := Any.slices_Sort_int lays189 blk off cap zs w hH hblk hsz
end Go.Proofs.Ytggihjmcafoppaa.sorts

namespace Go.Proofs.Ytggihjmcafoppaa.ords
open Go Go.RowKit Go.Proofs.Ytggihjmcafoppaa.base Go.Proofs.Ytggihjmcafoppaa.pairs
open Go.Maps (Keyed keyOf_int_mk)
open Go.Sort (Holds)
set_option linter.unusedVariables false
set_option linter.unusedSimpArgs false

theorem box_cellO (w w' : World) (z : Int) (x y : ByteArray) (hB : Below (w.alloc (.cells #[.int .i64 z, .string x, .string y] 121)).heap.size (w.alloc (.cells #[.int .i64 z, .string x, .string y] 121)) w') :
    w'.cell? ⟨w.heap.size, 0, none⟩ = some (.int .i64 z) ∧ w'.cell? ⟨w.heap.size, 1, none⟩ = some (.string x) ∧ w'.cell? ⟨w.heap.size, 2, none⟩ = some (.string y) := by
  have hlt : w.heap.size < (w.alloc (.cells #[.int .i64 z, .string x, .string y] 121)).heap.size := by simp
  refine ⟨(hB.cell (p := ⟨w.heap.size, 0, none⟩) hlt).trans ?_, (hB.cell (p := ⟨w.heap.size, 1, none⟩) hlt).trans ?_, (hB.cell (p := ⟨w.heap.size, 2, none⟩) hlt).trans ?_⟩
  · simp
  · simp
  · simp
theorem opsFor_upd (n : Int) (l : List Od) (k : Nat) (h : k < l.length) : upd (fun s => opsFor s n (l.take k)) (shardOf l[k].2.1 n) (opsFor (shardOf l[k].2.1 n) n (l.take k) ++ [l[k]]) = fun s => opsFor s n (l.take (k + 1)) := by
  funext t
  show upd _ _ _ _ = List.filter _ _
  rw [filter_snocO (fun o => decide (shardOf o.2.1 n = t)) l k h]
  by_cases e : t = shardOf l[k].2.1 n
  · subst e
    rw [upd_same]; simp [opsFor]
  · rw [upd_other e]
    have e' : ¬ shardOf l[k].2.1 n = t := fun x => e x.symm
    simp [opsFor, e']
theorem shardOf_wf (key : ByteArray) (n : Int) : (Lit.int .i64 (shardOf key n)).wf = true := by
  have h1 := (shardOf_range key n).1
  have h2 := shardOf_lt key n
  exact WalkArith.wf_i64 (by omega)
theorem opsFor_le (s n : Int) (l : List Od) : (opsFor s n l).length ≤ l.length := List.length_filter_le _ _

/-! ### the shards that have any, in order -/
theorem OwnZ.obj {w : World} {base g n cap : Nat} {zs : List Int} (h : OwnZ w base g n cap zs) : ∃ cur e, w.heap[g]? = some (.cells cur e (0, 0)) := by
  rcases h.2.2 with ⟨h', _⟩ | ⟨g', cap', cur, h', _, hg, _⟩
  · simp at h'
  · simp only [Value.slice.injEq, Option.some.injEq, Addr.mk.injEq, and_true, true_and] at h'
    obtain ⟨rfl, rfl⟩ := h'
    exact ⟨cur, _, hg⟩
theorem ranges_ne {w : World} {base g m cap b r n cnt : Nat} {zs : List Int} {D : DataW Unit} {left : Lit → Bool} (h : OwnZ w base g m cap zs) (hr : w.ranges Try.prog 3 noR b r n D left cnt) : g ≠ b ∧ g ≠ r := by
  obtain ⟨cur, e, hg⟩ := h.obj
  obtain ⟨es, clock, since, seen, c0, hb, _, _, _, hit, _⟩ := hr
  refine ⟨fun x => ?_, fun x => ?_⟩
  · rw [x, hb] at hg; cases hg
  · rw [x, hit] at hg; cases hg
def Coll (D : DataW Unit) (left : Lit → Bool) (ks : List Int) : Prop :=
  ks.Nodup ∧ (∀ s ∈ ks, (Lit.int .i64 s).wf = true) ∧ ∀ s, (Lit.int .i64 s).wf = true → (s ∈ ks ↔ (Maps.has D (.int .i64 s) = true ∧ left (.int .i64 s) = false))
theorem Coll.start (D : DataW Unit) : Coll D (Maps.has D) [] := ⟨List.nodup_nil, fun s h => absurd h List.not_mem_nil, fun s _ => by cases Maps.has D (.int .i64 s) <;> simp⟩
theorem Coll.step {D : DataW Unit} {left : Lit → Bool} {ks : List Int} (h : Coll D left ks) {x : Int} (hx : (Lit.int .i64 x).wf = true) (hl : left (.int .i64 x) = true) (hh : Maps.has D (.int .i64 x) = true) : Coll D (fun z => left z && !z.sameKey (.int .i64 x)) (ks ++ [x]) := by
  obtain ⟨h1, h2, h3⟩ := h
  have hnew : x ∉ ks := fun hm => by have := ((h3 x hx).1 hm).2; rw [hl] at this; cases this
  refine ⟨List.nodup_append.2 ⟨h1, by simp, fun a ha b hb => by simp at hb; subst hb; exact fun e => hnew (e ▸ ha)⟩, fun s hs => ?_, fun s hs => ?_⟩
  · rcases List.mem_append.1 hs with h4 | h4
    · exact h2 s h4
    · simp at h4; subst h4; exact hx
  · by_cases e : s = x
    · subst e; simp [hh, Lit.sameKey]
    · simp [h3 s hs, e, Lit.sameKey]
theorem Coll.sorted {D : DataW Unit} {left : Lit → Bool} {ks : List Int} (h : Coll D left ks) (hl : ∀ kl, left kl = false) {n : Int} {l : List Od} (hD : ∀ s, (Lit.int .i64 s).wf = true → (Maps.has D (.int .i64 s) = true ↔ opsFor s n l ≠ [])) : ks.mergeSort (fun x y => decide (x ≤ y)) = shardsOf n l := by
  obtain ⟨h1, h2, h3⟩ := h
  have hp : (ks.mergeSort (fun x y => decide (x ≤ y))).Perm ks := List.mergeSort_perm ks _
  have hs : (ks.mergeSort (fun x y => decide (x ≤ y))).Pairwise (fun a b => (decide (a ≤ b)) = true) := List.pairwise_mergeSort (le := fun x y : Int => decide (x ≤ y)) (fun a b c h1 h2 => by simp at *; omega) (fun a b => by simp; omega) ks
  have hn := hp.nodup_iff.2 h1
  refine asc_ext ?_ (shards_asc n l) fun x => ?_
  · unfold Asc
    refine (hs.and hn).imp ?_
    rintro a b ⟨h4, h5⟩
    simp at h4
    omega
  · rw [hp.mem_iff, shards_mem]
    constructor
    · intro hx
      have hw := h2 x hx
      have := (hD x hw).1 ((h3 x hw).1 hx).1
      obtain ⟨o, ho⟩ := List.exists_mem_of_ne_nil _ this
      obtain ⟨ho1, ho2⟩ := List.mem_filter.1 ho
      exact ⟨o, ho1, by simpa using ho2⟩
    · rintro ⟨o, ho, rfl⟩
      have hw := shardOf_wf o.2.1 n
      refine (h3 _ hw).2 ⟨(hD _ hw).2 fun e => ?_, hl _⟩
      have : o ∈ opsFor (shardOf o.2.1 n) n l := List.mem_filter.2 ⟨ho, by simp⟩
      rw [e] at this
      exact absurd this List.not_mem_nil
theorem ownZ_sorted {w : World} {base g m cp nn : Nat} {os : Array Obj} {ks : List Int} (h : OwnZ w base g m cp ks) :
    OwnZ (Go.Sort.grow (Go.Sort.putRow (Value.int .i64) (Go.Sort.ahead w nn) g 0 (ks.mergeSort fun x y => decide (x ≤ y)).toArray) os) base g m cp (ks.mergeSort fun x y => decide (x ≤ y)) ∧
    w.grownBy (Go.Sort.grow (Go.Sort.putRow (Value.int .i64) (Go.Sort.ahead w nn) g 0 (ks.mergeSort fun x y => decide (x ≤ y)).toArray) os) (some g) := by
  have hl := h.1
  have hl2 : (ks.mergeSort fun x y => decide (x ≤ y)).length = ks.length := List.length_mergeSort ks
  rcases h.2.2 with ⟨h', _⟩ | ⟨g', cap', cur, h', hbase, hb, h1, h2, h3, h4⟩
  · simp at h'
  · simp only [Value.slice.injEq, Option.some.injEq, Addr.mk.injEq, and_true, true_and] at h'
    obtain ⟨rfl, rfl⟩ := h'
    subst hl
    exact ⟨⟨hl2, ownsRow_sortedI hl2 hbase hb h1 h2 h3⟩, grownBy_sortedI _⟩
theorem ownZ_holds {w : World} {base g m cp : Nat} {ks : List Int} (h : OwnZ w base g m cp ks) : Holds (Value.int .i64) w g 0 ks.toArray := by
  have hl := h.1
  rcases h.2.2 with ⟨h', _⟩ | ⟨g', cap', cur, h', hbase, hb, h1, h2, h3, h4⟩
  · simp at h'
  · simp only [Value.slice.injEq, Option.some.injEq, Addr.mk.injEq, and_true, true_and] at h'
    obtain ⟨rfl, rfl⟩ := h'
    subst hl
    exact holds_of_blockI hb (by simpa [intVals] using h4)
theorem size_has {w : World} {B n : Nat} {D : DataW Unit} (h : w.ownsMap Try.prog 3 noR B n D) : Maps.size D ≤ n := by
  obtain ⟨es, clock, hb, F, hs, rfl⟩ := h
  rw [Maps.size_eq, length_sorted]
  simpa using hs

theorem wpList_next_key (w : World) {ops : Array Oper} {rest : List Oper} {o : Oper} {a : Act} {Q : Exit → Act → World → Prop} (hg : o.guard = none) (it : Operand) (hop : o.op = Op.next it false) (b r n : Nat) (D : DataW Unit) (left : Lit → Bool) (cnt : Nat)
    (hit : a.eval it = .pointer (some ⟨r, 0, none⟩)) (h : w.ranges Try.prog 3 noR b r n D left cnt)
    (hDone : (∀ kl, left kl = false) → wpList Try.prog ops Q rest (a.put o.dst (.tuple #[.bool false])) w)
    (hMore : ∀ (x : Int) (v : Value) (w' : World) (cnt' : Nat), (Lit.int .i64 x).wf = true → left (.int .i64 x) = true → Maps.has D (.int .i64 x) = true → Hid (w'.ranges Try.prog 3 noR b r n D (fun z => left z && !z.sameKey (.int .i64 x)) cnt') → cnt' < cnt →
      w.grownBy w' (some r) → (Instr.entry (.pointer (some ⟨r, 0, none⟩))).run Try.prog w' = .ok (.tuple #[.int .i64 x, v]) w' → wpList Try.prog ops Q rest (a.put o.dst (.tuple #[.bool true, .int .i64 x, v])) w') :
    wpList Try.prog ops Q (o :: rest) a w :=
  wpList_next_ranges w hg it hop 3 intLaw noR (Value.int .i64) (fun v : Value => v) (fun key kl hkey => by obtain ⟨x, rfl, _⟩ := Maps.keyOf_int_inv Try.underlying3 hkey; exact ⟨x, rfl⟩) (fun v y hv => ⟨v, rfl⟩) b r n D left cnt hit h (fun _ hl => hDone hl)
    (fun x c kl y w' cnt' hkey hlk hv hat hrg hlt hgr hsz hen => by
      obtain ⟨x', ex, rfl, hwx⟩ := Maps.keyOf_int_inv Try.underlying3 hkey
      cases ex
      exact hMore x c w' cnt' hwx hlk (Maps.has_true_of_atKey hat) hrg hlt hgr hen)

end Go.Proofs.Ytggihjmcafoppaa.ords
