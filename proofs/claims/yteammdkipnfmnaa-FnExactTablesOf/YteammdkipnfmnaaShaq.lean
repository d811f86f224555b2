/- What the exact law of TablesOf keeps from step to step. One who decides that came in. A world that came in. -/
import Derived.Test.YteammdkipnfmnaaShah
import Derived.Test.YteammdkipnfmnaaSham
import Derived.Test.YteammdkipnfmnaaShan
import Derived.Test.YteammdkipnfmnaaShao
import Derived.Test.YteammdkipnfmnaaShap
import Derived.Test.YteammdkipnfmnaaShab
import Derived.Test.YteammdkipnfmnaaShag
namespace Go.Proofs.Yteammdkipnfmnaa.wos
open Go Go.RowKit Go.Proofs.Yteammdkipnfmnaa.base Go.Proofs.Yteammdkipnfmnaa.pairs Go.Proofs.Yteammdkipnfmnaa.ords Go.Proofs.Yteammdkipnfmnaa.recs Go.Proofs.Yteammdkipnfmnaa.lay Go.Proofs.Yteammdkipnfmnaa.tabs
set_option linter.unusedVariables false
set_option linter.unusedSimpArgs false

theorem cnt_all_le {α : Type} {cnt z : α → Nat} {a : Nat} (l : List α) (h : ∀ x, cnt x ≤ a + 3 * z x) : cntAll cnt l ≤ a * l.length + 3 * (l.map z).sum := by
  induction l with
  | nil => simp [cntAll]
  | cons x l ih =>
    have e1 : cntAll cnt (x :: l) = cnt x + cntAll cnt l := by simp [cntAll]
    have h1 := h x
    rw [e1, List.map_cons, List.sum_cons, List.length_cons, Nat.mul_add]
    omega
theorem cntWo_le {x : Wo} (h : wsz x ≤ 1048576) : cntWo x ≤ 16777216 := by
  have h0 := cnt_all_le (cnt := cos.cntJ) (z := cos.jsz) (a := 2) x.1.2.2.2.1 (fun j => by unfold cos.cntJ cos.jsz; omega)
  have h1 := cnt_all_le (cnt := cntSh) (z := shz) (a := 2) x.2.1 (fun s => by have := cntS_le s; unfold cntS at this; unfold cntSh shz; omega)
  have h2 := cnt_all_le (cnt := cos.cntW) (z := wdz) (a := 4) x.2.2.1 (fun s => by unfold cos.cntW wdz; omega)
  have h3 := cnt_all_le (cnt := cos.cntW) (z := wdz) (a := 4) x.2.2.2.1 (fun s => by unfold cos.cntW wdz; omega)
  have h4 := cnt_all_le (cnt := cntOr) (z := orz) (a := 1) x.2.2.2.2 (fun s => by unfold cntOr orz; omega)
  have e0 : cos.cntC x.1 = cntAll cos.cntJ x.1.2.2.2.1 + 2 * x.1.2.2.2.2.1.length := rfl
  unfold wsz cos.csz cos.sumJ sumS sumW sumB at h
  unfold cntWo
  rw [e0]
  omega
theorem cntT_tabs {x : Wo} (h : wsz x ≤ 1048576) : cntAll cntT (tabsO x) ≤ 16777216 := by
  have h1 := cnt_all_le (cnt := fun s => cntT (mapOf s)) (z := shz) (a := 2) x.2.1 (fun s => by unfold cntT mapOf shz recs.szSh; omega)
  have e : cntAll cntT (tabsO x) = cntAll (fun s => cntT (mapOf s)) x.2.1 := by unfold tabsO cntAll; rw [List.map_map]; rfl
  unfold wsz sumS at h
  rw [e]
  omega
structure QT (w0 w : World) (A p bX : Nat) (av usX : List Value) (vW vG : Value) (M G : List (List Pr)) (FW FX FG : List Nat) : Prop where
  bel : Below w0.heap.size w0 w
  arg : BoxIn A 30 [] av [] w
  bx : BoxIn bX 42 [] usX [] w
  wn : tablesR.own w [vW] M FW
  gn : tablesR.own w [vG] G FG
  a0 : w0.heap.size ≤ A
  fw : ∀ k ∈ FW, A < k ∧ k < p
  fx : ∀ k ∈ FX, p ≤ k ∧ k < bX
  fg : ∀ k ∈ FG, bX < k
  oa : A < p
  ob : p ≤ bX
section
variable {w0 w w' : World} {A p bX : Nat} {av usX : List Value} {vW vG : Value} {M G : List (List Pr)} {FW FX FG : List Nat}
theorem QT.below (h : QT w0 w A p bX av usX vW vG M G FW FX FG) (hb : Below w.heap.size w w') : QT w0 w' A p bX av usX vW vG M G FW FX FG :=
  ⟨h.bel.trans (hb.mono h.bel.size), h.arg.below hb, h.bx.below hb, tablesR.ownBelow h.wn hb, tablesR.ownBelow h.gn hb, h.a0, h.fw, h.fx, h.fg, h.oa, h.ob⟩
theorem QT.markX (h : QT w0 w A p bX av usX vW vG M G FW FX FG) (hf : lay.Frame FX w w') : QT w0 w' A p bX av usX vW vG M G FW FX FG := by
  have h1 := h.oa; have h2 := h.ob; have h5 := h.a0
  exact ⟨h.bel.trans (hf.bel h.bel.size (fun k hk => by have := h.fx k hk; omega)), h.arg.frame hf (fun hk => by have := h.fx _ hk; omega), h.bx.frame hf (fun hk => by have := h.fx _ hk; omega), tablesR.ownFrame h.wn hf (fun k hk hk2 => by have := h.fx _ hk2; have := h.fw _ hk; omega), tablesR.ownFrame h.gn hf (fun k hk hk2 => by have := h.fx _ hk2; have := h.fg _ hk; omega), h.a0, h.fw, h.fx, h.fg, h.oa, h.ob⟩
theorem QT.markG {G' : List (List Pr)} (h : QT w0 w A p bX av usX vW vG M G FW FX FG) (ho : tablesR.own w' [vG] G' FG) (hf : lay.Frame FG w w') : QT w0 w' A p bX av usX vW vG M G' FW FX FG := by
  have h1 := h.oa; have h2 := h.ob; have h5 := h.a0
  exact ⟨h.bel.trans (hf.bel h.bel.size (fun k hk => by have := h.fg k hk; omega)), h.arg.frame hf (fun hk => by have := h.fg _ hk; omega), h.bx.frame hf (fun hk => by have := h.fg _ hk; omega), tablesR.ownFrame h.wn hf (fun k hk hk2 => by have := h.fg _ hk2; have := h.fw _ hk; omega), ho, h.a0, h.fw, h.fx, h.fg, h.oa, h.ob⟩
end
theorem eqTabR {w : World} {a a2 : Option Addr} {n c n2 c2 : Nat} {ts : List (List Pr)} {F F2 : List Nat} (h : tablesR.own w [.slice a n c] ts F) (h2 : tablesR.own w [.slice a2 n2 c2] ts F2) :
    Calls Try.prog 8 #[.slice a n c, .slice a2 n2 c2] w fun e w' => e = .returned (.bool true) ∧ Below w.heap.size w w' := by
  obtain ⟨v, q, e, _, hO⟩ := h
  cases e
  obtain ⟨v, q2, e, _, hO2⟩ := h2
  cases e
  have hs := hO.sl
  have hs2 := hO2.sl
  obtain rfl : n = n2 := hs.1.symm.trans hs2.1
  exact eqTablesT a a2 n c c2 ts w hs hs2
theorem tab_sl {w : World} {a : Option Addr} {n c : Nat} {ts : List (List Pr)} {F : List Nat} (h : tablesR.own w [.slice a n c] ts F) : SlG tableR w a n ts := by
  obtain ⟨v, q, e, _, hO⟩ := h
  cases e
  exact hO.sl
end Go.Proofs.Yteammdkipnfmnaa.wos

namespace Go.Proofs.Yteammdkipnfmnaa.cos
open Go Go.RowKit Go.Proofs.Yteammdkipnfmnaa.base Go.Proofs.Yteammdkipnfmnaa.pairs Go.Proofs.Yteammdkipnfmnaa.ords Go.Proofs.Yteammdkipnfmnaa.lay Go.Proofs.Yteammdkipnfmnaa.wds
set_option linter.unusedVariables false
set_option linter.unusedSimpArgs false

set_option maxRecDepth 100000 in
theorem reads_op : Reads Try.prog 144 opR := fun H enc W fuel vs x hl h => by
  obtain ⟨xs, m, _, _, _, hxl, hel⟩ := DataW.trod_struct Try.underlying144 h
  match vs, (show vs.length = 3 from hl) with
  | [v0, v1, v2], _ =>
    match xs, (show xs.length = 3 from hxl) with
    | [x0, x1, x2], _ =>
      have k0 := hel 0 _ rfl
      have k1 := hel 1 _ rfl
      have k2 := hel 2 _ rfl
      have e0 : Try.prog.cellsOf 3 = 1 := by kernel_rfl
      have e1 : Try.prog.cellsOf 9 = 1 := by kernel_rfl
      simp [e0, e1] at k0 k1 k2
      obtain ⟨y0, s0⟩ := (reads_int Try.underlying3) H enc W m _ x0 rfl k0
      obtain ⟨y1, s1⟩ := (reads_str Try.underlying9) H enc W m _ x1 rfl k1
      obtain ⟨y2, s2⟩ := (reads_str Try.underlying9) H enc W m _ x2 rfl k2
      exact ⟨(y0, (y1, y2)), ⟨[v0], [v1, v2], rfl, s0, ⟨[v1], [v2], rfl, s1, s2⟩⟩⟩
set_option maxRecDepth 100000 in
theorem reads_choice : Reads Try.prog 123 chR := fun H enc W fuel vs x hl h => by
  obtain ⟨xs, m, _, _, _, hxl, hel⟩ := DataW.trod_struct Try.underlying123 h
  match vs, (show vs.length = 2 from hl) with
  | [v0, v1], _ =>
    match xs, (show xs.length = 2 from hxl) with
    | [x0, x1], _ =>
      have k0 := hel 0 _ rfl
      have k1 := hel 1 _ rfl
      have e0 : Try.prog.cellsOf 3 = 1 := by kernel_rfl
      have e1 : Try.prog.cellsOf 4 = 1 := by kernel_rfl
      simp [e0, e1] at k0 k1
      obtain ⟨y0, s0⟩ := (reads_int Try.underlying3) H enc W m _ x0 rfl k0
      obtain ⟨y1, s1⟩ := (reads_bool Try.underlying4) H enc W m _ x1 rfl k1
      exact ⟨(y0, y1), ⟨[v0], [v1], rfl, s0, s1⟩⟩
set_option maxRecDepth 100000 in
theorem reads_job : Reads Try.prog 113 jobR := fun H enc W fuel vs x hl h => by
  obtain ⟨xs, m, _, _, _, hxl, hel⟩ := DataW.trod_struct Try.underlying113 h
  match vs, (show vs.length = 4 from hl) with
  | [v0, v1, v2, v3], _ =>
    match xs, (show xs.length = 4 from hxl) with
    | [x0, x1, x2, x3], _ =>
      have k0 := hel 0 _ rfl
      have k1 := hel 1 _ rfl
      have k2 := hel 2 _ rfl
      have k3 := hel 3 _ rfl
      have e0 : Try.prog.cellsOf 3 = 1 := by kernel_rfl
      have e1 : Try.prog.cellsOf 81 = 1 := by kernel_rfl
      have e2 : Try.prog.cellsOf 111 = 1 := by kernel_rfl
      simp [e0, e1, e2] at k0 k1 k2 k3
      obtain ⟨y0, s0⟩ := (reads_int Try.underlying3) H enc W m _ x0 rfl k0
      obtain ⟨y1, s1⟩ := (reads_slice _ Try.underlying81 (by kernel_rfl) (by decide) reads_op) H enc W m _ x1 rfl k1
      obtain ⟨y2, s2⟩ := (reads_int Try.underlying3) H enc W m _ x2 rfl k2
      obtain ⟨y3, s3⟩ := (reads_slice _ Try.underlying111 (by kernel_rfl) (by decide) (reads_int Try.underlying3)) H enc W m _ x3 rfl k3
      exact ⟨(y0, (y1, (y2, y3))), ⟨[v0], [v1, v2, v3], rfl, s0, ⟨[v1], [v2, v3], rfl, s1, ⟨[v2], [v3], rfl, s2, s3⟩⟩⟩⟩
set_option maxRecDepth 100000 in
theorem reads_coord : Reads Try.prog 25 coordR := fun H enc W fuel vs x hl h => by
  obtain ⟨xs, m, _, _, _, hxl, hel⟩ := DataW.trod_struct Try.underlying25 h
  match vs, (show vs.length = 6 from hl) with
  | [v0, v1, v2, v3, v4, v5], _ =>
    match xs, (show xs.length = 6 from hxl) with
    | [x0, x1, x2, x3, x4, x5], _ =>
      have k0 := hel 0 _ rfl
      have k1 := hel 1 _ rfl
      have k2 := hel 2 _ rfl
      have k3 := hel 3 _ rfl
      have k4 := hel 4 _ rfl
      have k5 := hel 5 _ rfl
      have e0 : Try.prog.cellsOf 3 = 1 := by kernel_rfl
      have e1 : Try.prog.cellsOf 22 = 1 := by kernel_rfl
      have e2 : Try.prog.cellsOf 23 = 1 := by kernel_rfl
      simp [e0, e1, e2] at k0 k1 k2 k3 k4 k5
      obtain ⟨y0, s0⟩ := (reads_int Try.underlying3) H enc W m _ x0 rfl k0
      obtain ⟨y1, s1⟩ := (reads_int Try.underlying3) H enc W m _ x1 rfl k1
      obtain ⟨y2, s2⟩ := (reads_int Try.underlying3) H enc W m _ x2 rfl k2
      obtain ⟨y3, s3⟩ := (reads_slice _ Try.underlying22 (by kernel_rfl) (by decide) reads_job) H enc W m _ x3 rfl k3
      obtain ⟨y4, s4⟩ := (reads_slice _ Try.underlying23 (by kernel_rfl) (by decide) reads_choice) H enc W m _ x4 rfl k4
      obtain ⟨y5, s5⟩ := (reads_int Try.underlying3) H enc W m _ x5 rfl k5
      exact ⟨(y0, (y1, (y2, (y3, (y4, y5))))), ⟨[v0], [v1, v2, v3, v4, v5], rfl, s0, ⟨[v1], [v2, v3, v4, v5], rfl, s1, ⟨[v2], [v3, v4, v5], rfl, s2, ⟨[v3], [v4, v5], rfl, s3, ⟨[v4], [v5], rfl, s4, s5⟩⟩⟩⟩⟩⟩
end Go.Proofs.Yteammdkipnfmnaa.cos

namespace Go.Proofs.Yteammdkipnfmnaa.wos
open Go Go.RowKit Go.Proofs.Yteammdkipnfmnaa.base Go.Proofs.Yteammdkipnfmnaa.pairs Go.Proofs.Yteammdkipnfmnaa.ords Go.Proofs.Yteammdkipnfmnaa.lay
set_option linter.unusedVariables false
set_option linter.unusedSimpArgs false

set_option maxRecDepth 100000 in
theorem reads_pair : Reads Try.prog 142 pairR := fun H enc W fuel vs x hl h => by
  obtain ⟨xs, m, _, _, _, hxl, hel⟩ := DataW.trod_struct Try.underlying142 h
  match vs, (show vs.length = 2 from hl) with
  | [v0, v1], _ =>
    match xs, (show xs.length = 2 from hxl) with
    | [x0, x1], _ =>
      have k0 := hel 0 _ rfl
      have k1 := hel 1 _ rfl
      have e0 : Try.prog.cellsOf 9 = 1 := by kernel_rfl
      simp [e0] at k0 k1
      obtain ⟨y0, s0⟩ := (reads_str Try.underlying9) H enc W m _ x0 rfl k0
      obtain ⟨y1, s1⟩ := (reads_str Try.underlying9) H enc W m _ x1 rfl k1
      exact ⟨(y0, y1), ⟨[v0], [v1], rfl, s0, s1⟩⟩
set_option maxRecDepth 100000 in
theorem reads_rec : Reads Try.prog 140 recR := fun H enc W fuel vs x hl h => by
  obtain ⟨xs, m, _, _, _, hxl, hel⟩ := DataW.trod_struct Try.underlying140 h
  match vs, (show vs.length = 3 from hl) with
  | [v0, v1, v2], _ =>
    match xs, (show xs.length = 3 from hxl) with
    | [x0, x1, x2], _ =>
      have k0 := hel 0 _ rfl
      have k1 := hel 1 _ rfl
      have k2 := hel 2 _ rfl
      have e0 : Try.prog.cellsOf 3 = 1 := by kernel_rfl
      have e1 : Try.prog.cellsOf 81 = 1 := by kernel_rfl
      simp [e0, e1] at k0 k1 k2
      obtain ⟨y0, s0⟩ := (reads_int Try.underlying3) H enc W m _ x0 rfl k0
      obtain ⟨y1, s1⟩ := (reads_int Try.underlying3) H enc W m _ x1 rfl k1
      obtain ⟨y2, s2⟩ := (reads_slice _ Try.underlying81 (by kernel_rfl) (by decide) cos.reads_op) H enc W m _ x2 rfl k2
      exact ⟨(y0, (y1, y2)), ⟨[v0], [v1, v2], rfl, s0, ⟨[v1], [v2], rfl, s1, s2⟩⟩⟩
set_option maxRecDepth 100000 in
theorem reads_shard : Reads Try.prog 79 shardR := fun H enc W fuel vs x hl h => by
  obtain ⟨xs, m, _, _, _, hxl, hel⟩ := DataW.trod_struct Try.underlying79 h
  match vs, (show vs.length = 5 from hl) with
  | [v0, v1, v2, v3, v4], _ =>
    match xs, (show xs.length = 5 from hxl) with
    | [x0, x1, x2, x3, x4], _ =>
      have k0 := hel 0 _ rfl
      have k1 := hel 1 _ rfl
      have k2 := hel 2 _ rfl
      have k3 := hel 3 _ rfl
      have k4 := hel 4 _ rfl
      have e0 : Try.prog.cellsOf 3 = 1 := by kernel_rfl
      have e1 : Try.prog.cellsOf 76 = 1 := by kernel_rfl
      have e2 : Try.prog.cellsOf 77 = 1 := by kernel_rfl
      simp [e0, e1, e2] at k0 k1 k2 k3 k4
      obtain ⟨y0, s0⟩ := (reads_int Try.underlying3) H enc W m _ x0 rfl k0
      obtain ⟨y1, s1⟩ := (reads_slice _ Try.underlying76 (by kernel_rfl) (by decide) reads_rec) H enc W m _ x1 rfl k1
      obtain ⟨y2, s2⟩ := (reads_int Try.underlying3) H enc W m _ x2 rfl k2
      obtain ⟨y3, s3⟩ := (reads_slice _ Try.underlying77 (by kernel_rfl) (by decide) reads_pair) H enc W m _ x3 rfl k3
      obtain ⟨y4, s4⟩ := (reads_slice _ Try.underlying76 (by kernel_rfl) (by decide) reads_rec) H enc W m _ x4 rfl k4
      exact ⟨(y0, (y1, (y2, (y3, y4)))), ⟨[v0], [v1, v2, v3, v4], rfl, s0, ⟨[v1], [v2, v3, v4], rfl, s1, ⟨[v2], [v3, v4], rfl, s2, ⟨[v3], [v4], rfl, s3, s4⟩⟩⟩⟩⟩
set_option maxRecDepth 100000 in
theorem reads_word : Reads Try.prog 83 cos.wordR := fun H enc W fuel vs x hl h => by
  obtain ⟨xs, m, _, _, _, hxl, hel⟩ := DataW.trod_struct Try.underlying83 h
  match vs, (show vs.length = 5 from hl) with
  | [v0, v1, v2, v3, v4], _ =>
    match xs, (show xs.length = 5 from hxl) with
    | [x0, x1, x2, x3, x4], _ =>
      have k0 := hel 0 _ rfl
      have k1 := hel 1 _ rfl
      have k2 := hel 2 _ rfl
      have k3 := hel 3 _ rfl
      have k4 := hel 4 _ rfl
      have e0 : Try.prog.cellsOf 3 = 1 := by kernel_rfl
      have e1 : Try.prog.cellsOf 81 = 1 := by kernel_rfl
      have e2 : Try.prog.cellsOf 4 = 1 := by kernel_rfl
      simp [e0, e1, e2] at k0 k1 k2 k3 k4
      obtain ⟨y0, s0⟩ := (reads_int Try.underlying3) H enc W m _ x0 rfl k0
      obtain ⟨y1, s1⟩ := (reads_int Try.underlying3) H enc W m _ x1 rfl k1
      obtain ⟨y2, s2⟩ := (reads_int Try.underlying3) H enc W m _ x2 rfl k2
      obtain ⟨y3, s3⟩ := (reads_slice _ Try.underlying81 (by kernel_rfl) (by decide) cos.reads_op) H enc W m _ x3 rfl k3
      obtain ⟨y4, s4⟩ := (reads_bool Try.underlying4) H enc W m _ x4 rfl k4
      exact ⟨(y0, (y1, (y2, (y3, y4)))), ⟨[v0], [v1, v2, v3, v4], rfl, s0, ⟨[v1], [v2, v3, v4], rfl, s1, ⟨[v2], [v3, v4], rfl, s2, ⟨[v3], [v4], rfl, s3, s4⟩⟩⟩⟩⟩
set_option maxRecDepth 100000 in
theorem reads_order : Reads Try.prog 86 ordR := fun H enc W fuel vs x hl h => by
  obtain ⟨xs, m, _, _, _, hxl, hel⟩ := DataW.trod_struct Try.underlying86 h
  match vs, (show vs.length = 2 from hl) with
  | [v0, v1], _ =>
    match xs, (show xs.length = 2 from hxl) with
    | [x0, x1], _ =>
      have k0 := hel 0 _ rfl
      have k1 := hel 1 _ rfl
      have e0 : Try.prog.cellsOf 3 = 1 := by kernel_rfl
      have e1 : Try.prog.cellsOf 81 = 1 := by kernel_rfl
      simp [e0, e1] at k0 k1
      obtain ⟨y0, s0⟩ := (reads_int Try.underlying3) H enc W m _ x0 rfl k0
      obtain ⟨y1, s1⟩ := (reads_slice _ Try.underlying81 (by kernel_rfl) (by decide) cos.reads_op) H enc W m _ x1 rfl k1
      exact ⟨(y0, y1), ⟨[v0], [v1], rfl, s0, s1⟩⟩
set_option maxRecDepth 100000 in
theorem reads_world : Reads Try.prog 30 worldR := fun H enc W fuel vs x hl h => by
  obtain ⟨xs, m, _, _, _, hxl, hel⟩ := DataW.trod_struct Try.underlying30 h
  match vs, (show vs.length = 10 from hl) with
  | [v0, v1, v2, v3, v4, v5, v6, v7, v8, v9], _ =>
    match xs, (show xs.length = 5 from hxl) with
    | [x0, x1, x2, x3, x4], _ =>
      have k0 := hel 0 _ rfl
      have k1 := hel 1 _ rfl
      have k2 := hel 2 _ rfl
      have k3 := hel 3 _ rfl
      have k4 := hel 4 _ rfl
      have e0 : Try.prog.cellsOf 25 = 6 := by kernel_rfl
      have e1 : Try.prog.cellsOf 26 = 1 := by kernel_rfl
      have e2 : Try.prog.cellsOf 27 = 1 := by kernel_rfl
      have e3 : Try.prog.cellsOf 28 = 1 := by kernel_rfl
      simp [e0, e1, e2, e3] at k0 k1 k2 k3 k4
      obtain ⟨y0, s0⟩ := cos.reads_coord H enc W m _ x0 rfl k0
      obtain ⟨y1, s1⟩ := (reads_slice _ Try.underlying26 (by kernel_rfl) (by decide) reads_shard) H enc W m _ x1 rfl k1
      obtain ⟨y2, s2⟩ := (reads_slice _ Try.underlying27 (by kernel_rfl) (by decide) reads_word) H enc W m _ x2 rfl k2
      obtain ⟨y3, s3⟩ := (reads_slice _ Try.underlying27 (by kernel_rfl) (by decide) reads_word) H enc W m _ x3 rfl k3
      obtain ⟨y4, s4⟩ := (reads_slice _ Try.underlying28 (by kernel_rfl) (by decide) reads_order) H enc W m _ x4 rfl k4
      exact ⟨(y0, (y1, (y2, (y3, y4)))), ⟨[v0, v1, v2, v3, v4, v5], [v6, v7, v8, v9], rfl, s0, ⟨[v6], [v7, v8, v9], rfl, s1, ⟨[v7], [v8, v9], rfl, s2, ⟨[v8], [v9], rfl, s3, s4⟩⟩⟩⟩⟩
end Go.Proofs.Yteammdkipnfmnaa.wos
