/- The specification's proving of all between, where the pairs are right. -/
import Derived.Test.YteammdkipnfmnaaGreatDoorShaj
import Derived.Test.YteammdkipnfmnaaGreatDoorShag
import Derived.Deep.CutBlock
import Derived.Deep.Light
namespace Go.Proofs.YteammdkipnfmnaaGreatDoor.range
open Go Go.RowKit Go.Proofs.YteammdkipnfmnaaGreatDoor.base Go.Proofs.YteammdkipnfmnaaGreatDoor.pairs Go.Proofs.YteammdkipnfmnaaGreatDoor.tree
set_option linter.unusedVariables false
set_option linter.unusedSimpArgs false

theorem ltB_less {a b : ByteArray} (h : ltB a b = true) : Op.bytesLess a.toList b.toList = true := h
theorem ltB_less0 {a b : ByteArray} (h : ltB a b = false) : Op.bytesLess a.toList b.toList = false := h
theorem seg_at {lo hi : ByteArray} {l : List Pr} {j : Nat} (h : lowN lo l + j < l.length) (hj : j ≤ segN lo hi l) : (j < segN lo hi l ↔ inB lo hi l[lowN lo l + j].1 = true) := by
  have := takeWhile_at (fun p => inB lo hi p.1) (l.drop (lowN lo l)) j (by rw [List.length_drop]; omega) hj
  rw [List.getElem_drop] at this
  exact this
def FVar (w : World) (g : Nat) (n fr : Int) (v : Value) : Prop := w.heap[g]? = some (.cells #[.int .i64 n, .int .i64 fr, v] 64 (0, 0))
theorem FVar.c0 {w : World} {g : Nat} {n fr : Int} {v : Value} (h : FVar w g n fr v) : w.cell? ⟨g, 0, none⟩ = some (.int .i64 n) := cell_cur h 0 _ rfl
theorem FVar.c1 {w : World} {g : Nat} {n fr : Int} {v : Value} (h : FVar w g n fr v) : w.cell? ⟨g, 1, none⟩ = some (.int .i64 fr) := cell_cur h 1 _ rfl
theorem FVar.c2 {w : World} {g : Nat} {n fr : Int} {v : Value} (h : FVar w g n fr v) : w.cell? ⟨g, 2, none⟩ = some v := cell_cur h 2 _ rfl
theorem FVar.below {w w' : World} {g : Nat} {n fr : Int} {v : Value} (h : FVar w g n fr v) (hb : Below w.heap.size w w') : FVar w' g n fr v :=
  (hb.block g (Array.getElem?_eq_some_iff.1 h).1).trans h
theorem FVar.fz {w : World} {g : Nat} {n fr : Int} {v : Value} (h : FVar w g n fr v) (j : Nat) : w.frozen? ⟨g, j, none⟩ = false := by
  unfold FVar at h; simp [World.frozen?, h]

theorem fvar_alloc {w : World} {g : Nat} {n fr : Int} {v : Value} (h : FVar w g n fr v) (o : Obj) : FVar (w.alloc o) g n fr v := h.below ((Below.refl _ _).alloc (Nat.le_refl _) _)
theorem fvar_grown {w w' : World} {g : Nat} {n fr : Int} {v : Value} {o : Obj} {row : Option Nat} (h : FVar w g n fr v) (hg : (w.alloc o).grownBy w' row) (hne : some g ≠ row) : FVar w' g n fr v :=
  (hg.block g (Array.getElem?_eq_some_iff.1 (fvar_alloc h o)).1 hne).trans (fvar_alloc h o)
theorem l4Path_enters : ∀ args w, (callFunc 95 args).run Tryz.prog w = .ok (.enter 95 args) w := fun args w => by kernel_rfl
theorem row_shape {w : World} {base : Nat} {e : TypeId} {size : Nat} {v : Value} {n : Nat} {xs : List Value} (h : w.ownsRow base e size v n xs) (h0 : ¬ v = .slice none 0 0) : ∃ g c, v = .slice (some ⟨g, 0, none⟩) n c := by
  rcases h.2 with ⟨h1, _⟩ | ⟨g, c, _, h1, _⟩
  · exact absurd h1 h0
  · exact ⟨g, c, h1⟩
def PPost (w : World) (F : Prf) (e : Ending) (w' : World) : Prop :=
  ∃ a m c hs, e = .returned (.agg #[.int .i64 F.n, .int .i64 F.fr, .slice a m c]) ∧ OwnI w' w.heap.size (.slice a m c) F.items hs ∧ Below w.heap.size w w'
theorem infoI : (Tryz.prog.info? 107).map (fun i => (i.zero, i.size, i.bytes)) = some (some (.agg #[.string ⟨#[]⟩, .string ⟨#[]⟩, .slice none 0 0]), 3, 56) := by kernel_rfl
theorem cells_three (w : World) (x y z : Value) (t : TypeId) : ∀ j u, [x, y, z][j]? = some u → (w.alloc (.cells #[x, y, z] t)).cell? ((⟨w.heap.size, 0, none⟩ : Addr).add j) = some u := by
  intro j u hj
  match j with
  | 0 => simp at hj; subst hj; simp [Addr.add]
  | 1 => simp at hj; subst hj; simp [Addr.add]
  | 2 => simp at hj; subst hj; simp [Addr.add]
  | n + 3 => simp at hj
theorem three_oneCell (x y : ByteArray) (a : Option Addr) (n c : Nat) : ∀ u ∈ [Value.string x, Value.string y, Value.slice a n c], u.oneCell' = true := by
  intro u hu; simp at hu; rcases hu with rfl | rfl | rfl <;> rfl

set_option maxRecDepth 100000 in
set_option maxHeartbeats 8000000 in
theorem spec_proveYes (b off cap : Nat) (l : List Pr) (lo hi : ByteArray) (w : World) (h : SlP w (some ⟨b, off, none⟩) l.length l) (hcap : l.length ≤ cap) (hks : ∀ p ∈ l, p.1.size ≤ 1099511627776) (hok : pairsOk l = true) :
    Calls Tryz.prog 54 #[.slice (some ⟨b, off, none⟩) l.length cap, .string lo, .string hi] w (PPost w (prove l lo hi)) := by
  obtain ⟨w0, hw0⟩ : ∃ w0, w0 = w.alloc (.cells #[.int .i64 0, .int .i64 0, .slice none 0 0] 64) := ⟨_, rfl⟩
  have hba : Below w.heap.size w w0 := by rw [hw0]; exact (Below.refl _ _).alloc (Nat.le_refl _) _
  have hsz : w0.heap.size = w.heap.size + 1 := by rw [hw0]; simp
  have k0 : w0.cell? ⟨w.heap.size, 0, none⟩ = some (.int .i64 0) := by rw [hw0]; simp
  have k1 : w0.cell? ⟨w.heap.size, 1, none⟩ = some (.int .i64 0) := by rw [hw0]; simp
  have k2 : w0.cell? ⟨w.heap.size, 2, none⟩ = some (.slice none 0 0) := by rw [hw0]; simp
  have f0 : ∀ j, w0.frozen? ⟨w.heap.size, j, none⟩ = false := by intro j; rw [hw0]; simp
  have hP := spec_pairsOk b off l.length cap l w0 (h.below hba) hks
  rw [hok] at hP
  have HP := Hid.mk' hP
  clear hP
  go_enter Tryz.func54, Tryz.ntmps54
  go_wp2_with fail
  rw [← hw0]
  clear hw0
  refine HP.out.mono ?_
  rintro e w1 ⟨rfl, hb1⟩
  have hlt : w.heap.size < w0.heap.size := by omega
  have c0 := (hb1.cell (p := ⟨w.heap.size, 0, none⟩) hlt).trans k0
  have c1 := (hb1.cell (p := ⟨w.heap.size, 1, none⟩) hlt).trans k1
  have c2 := (hb1.cell (p := ⟨w.heap.size, 2, none⟩) hlt).trans k2
  have z0 := (hb1.frozen (p := ⟨w.heap.size, 0, none⟩) hlt).trans (f0 0)
  have z1 := (hb1.frozen (p := ⟨w.heap.size, 1, none⟩) hlt).trans (f0 1)
  have z2 := (hb1.frozen (p := ⟨w.heap.size, 2, none⟩) hlt).trans (f0 2)
  have hB1 := hba.trans (hb1.mono hba.size)
  clear k0 k1 k2 f0 hsz HP
  go_upto_block 0 with fail
  have hok2 := hok
  have hlim := ok_lim hok
  have hl60 : l.length ≤ 60 := (pairsOk_iff l).1 hok |>.2
  have hln := lowN_le lo l
  have hsg := segN_le lo hi l
  have hto := toN_le lo hi l
  obtain ⟨w2, hw2⟩ : ∃ w2, w2 = w1.alloc (.cells #[.int .i64 (l.length : Int), .int .i64 0, .slice none 0 0] 64) := ⟨_, rfl⟩
  have hF2 : FVar w2 w1.heap.size (l.length : Int) 0 (.slice none 0 0) := by rw [hw2]; exact heap_alloc_new w1 _
  have hB2 : Below w1.heap.size w1 w2 := by rw [hw2]; exact (Below.refl _ _).alloc (Nat.le_refl _) _
  have hs2 : w2.heap.size = w1.heap.size + 1 := by rw [hw2]; simp
  have HL1 := Hid.mk' (h.below hB1)
  have HL := Hid.mk' (h.below (hB1.trans (hB2.mono hB1.size)))
  rw [← hw2]
  clear hw2 h hok hks hba hb1
  go_cut [8] from 18 to 32 (fun s8 wx => s8 = .int .i64 (lowN lo l : Int) ∧ w2 = wx)
  case first =>
    go_wp2_with fail
    go_loopw [8] (fun s8 wr => ∃ k : Nat, s8 = .int .i64 (k : Int) ∧ k ≤ lowN lo l ∧ w2 = wr) (fun s8 _ => l.length - (intOf s8).toNat)
    case atStart => exact ⟨0, rfl, Nat.zero_le _, rfl⟩
    case round =>
      obtain ⟨k, rfl, hk, rfl⟩ := hrel
      by_cases hlt2 : k < l.length
      · have hki : (k : Int) < (l.length : Int) := by omega
        have d1 := (HL.out.cells k hlt2).1
        have hat := takeWhile_at (fun p => ltB p.1 lo) l k hlt2 hk
        cases hb : ltB l[k].1 lo with
        | true =>
          have hq := ltB_less hb
          have hk2 : k < lowN lo l := hat.2 hb
          clear hat hb
          generalize l[k].1 = kk at *
          go_wp2_with fail
          go_roundw
          case rel => exact ⟨k + 1, by go_num, by omega, by trivial⟩
          case measure => simp [intOf]; omega
        | false =>
          have hq := ltB_less0 hb
          have hk2 : ¬ k < lowN lo l := fun h => by have := hat.1 h; rw [hb] at this; cases this
          have HK : Hid (k = lowN lo l) := by show _ = _; omega
          clear hat hb
          generalize l[k].1 = kk at *
          go_wp2_with fail
          go_meet
          exact ⟨val_int (by have := HK.out; omega), by trivial⟩
      · have hki : ¬ (k : Int) < (l.length : Int) := by omega
        have HK : Hid (k = lowN lo l) := by show _ = _; omega
        go_wp2_with fail
        go_meet
        exact ⟨val_int (by have := HK.out; omega), by trivial⟩
  case rest =>
    obtain ⟨rfl, rfl⟩ := hcut
    go_upto_block 2 with fail
    go_cut [9] from 34 to 49 (fun s9 wx => s9 = .int .i64 ((lowN lo l + segN lo hi l : Nat) : Int) ∧ w2 = wx)
    case first =>
      go_wp2_with fail
      go_loopw [9] (fun s9 wr => ∃ j : Nat, s9 = .int .i64 ((lowN lo l + j : Nat) : Int) ∧ j ≤ segN lo hi l ∧ w2 = wr) (fun s9 _ => l.length - (intOf s9).toNat)
      case atStart => exact ⟨0, rfl, Nat.zero_le _, rfl⟩
      case round =>
        obtain ⟨j, rfl, hj, rfl⟩ := hrel
        obtain ⟨t, ht⟩ : ∃ t, lowN lo l + j = t := ⟨_, rfl⟩
        by_cases hlt2 : lowN lo l + j < l.length
        · have hat := seg_at hlt2 hj
          have d1 := (HL.out.cells _ hlt2).1
          obtain ⟨kk, hkk⟩ : ∃ kk, l[lowN lo l + j].1 = kk := ⟨_, rfl⟩
          rw [hkk] at hat d1
          have hIn := spec_l3In kk lo hi w2
          rw [ht] at d1 hlt2 ⊢
          have hki : (t : Int) < (l.length : Int) := by omega
          clear hkk
          cases hb : inB lo hi kk with
          | true =>
            rw [hb] at hIn
            have HI := Hid.mk' hIn
            have hk2 : j < segN lo hi l := hat.2 hb
            have HT := Hid.mk' ht
            clear hat hb hIn ht
            go_wp2_with fail
            refine HI.out.mono ?_
            rintro e w3 ⟨rfl, hw3⟩
            subst hw3
            go_wp2_with fail
            go_roundw
            case rel => exact ⟨j + 1, val_int (by have := HT.out; omega), by omega, by trivial⟩
            case measure => simp [intOf]; omega
          | false =>
            rw [hb] at hIn
            have HI := Hid.mk' hIn
            have hk2 : ¬ j < segN lo hi l := fun h => by have := hat.1 h; rw [hb] at this; cases this
            have HK : Hid (lowN lo l + segN lo hi l = t) := by show _ = _; omega
            clear hat hb hIn ht
            go_wp2_with fail
            refine HI.out.mono ?_
            rintro e w3 ⟨rfl, hw3⟩
            subst hw3
            go_wp2_with fail
            go_meet
            exact ⟨val_int (by rw [HK.out]), by trivial⟩
        · rw [ht] at hlt2 ⊢
          have hki : ¬ (t : Int) < (l.length : Int) := by omega
          have HK : Hid (lowN lo l + segN lo hi l = t) := by show _ = _; omega
          clear ht
          go_wp2_with fail
          go_meet
          exact ⟨val_int (by rw [HK.out]), by trivial⟩
    case rest =>
      obtain ⟨rfl, rfl⟩ := hcut
      have HFr : Hid (fromN lo l = lowN lo l - 1) := rfl
      have HTo : Hid (toN lo hi l = if lowN lo l + segN lo hi l < l.length then lowN lo l + segN lo hi l + 1 else lowN lo l + segN lo hi l) := rfl
      generalize lowN lo l = a1 at *
      obtain ⟨b1, hb1⟩ : ∃ b1, a1 + segN lo hi l = b1 := ⟨_, rfl⟩
      rw [hb1] at HTo hsg
      rw [hb1]
      clear hb1
      go_upto_if 51 with fail
      go_cut [8] from 50 to 53 (fun s8 wx => s8 = .int .i64 (fromN lo l : Int) ∧ w2 = wx)
      case first =>
        by_cases h0 : 0 < a1
        · have h0i : (0 : Int) < (a1 : Int) := by omega
          go_wp2_with fail
          go_meet
          exact ⟨val_int (by have := HFr.out; omega), by trivial⟩
        · have h0i : ¬ (0 : Int) < (a1 : Int) := by omega
          go_wp2_with fail
          go_meet
          exact ⟨val_int (by have := HFr.out; omega), by trivial⟩
      case rest =>
        obtain ⟨rfl, rfl⟩ := hcut
        go_upto_if 57 with fail
        go_cut [9] from 54 to 59 (fun s9 wx => s9 = .int .i64 (toN lo hi l : Int) ∧ w2 = wx)
        case first =>
          by_cases h0 : b1 < l.length
          · have h0i : (b1 : Int) < (l.length : Int) := by omega
            go_wp2_with fail
            go_meet
            exact ⟨val_int (by have := HTo.out; rw [if_pos h0] at this; omega), by trivial⟩
          · have h0i : ¬ (b1 : Int) < (l.length : Int) := by omega
            go_wp2_with fail
            go_meet
            exact ⟨val_int (by have := HTo.out; rw [if_neg h0] at this; omega), by trivial⟩
        case rest =>
          obtain ⟨rfl, rfl⟩ := hcut
          go_upto_if 62 with fail
          obtain ⟨fr, hfr⟩ : ∃ fr : Int, (if fromN lo l < toN lo hi l then (fromN lo l : Int) else 0) = fr := ⟨_, rfl⟩
          go_cut [] from 60 to 64 (fun wx => FVar wx w1.heap.size (l.length : Int) fr (.slice none 0 0) ∧ Below w1.heap.size w1 wx)
          case first =>
            have e1 := hF2.c1
            have e2 := hF2.fz 1
            by_cases hft : fromN lo l < toN lo hi l
            · rw [if_pos hft] at hfr
              subst hfr
              have hS := set_cur hF2 1 (.int .i64 (fromN lo l : Int))
              have hBs := hB2.setCell (p := ⟨w1.heap.size, 1, none⟩) (Nat.le_refl _) (.int .i64 (fromN lo l : Int))
              have HS := Hid.mk' hS
              clear hS
              go_wp2_with fail
              go_meet
              exact ⟨HS.out.1, hBs⟩
            · rw [if_neg hft] at hfr
              subst hfr
              go_wp2_with fail
              go_meet
              exact ⟨hF2, hB2⟩
          case rest =>
            obtain ⟨hF3, hB3⟩ := hcut
            go_wp2_with fail
            obtain ⟨i0, hif, hz0, hz1, hz2⟩ := info_parts infoI
            go_loopw [10] (fun iv wr => ∃ (k : Nat) (v : Value) (hs : List Hd), iv = .int .i64 (k : Int) ∧ fromN lo l ≤ k ∧ (k ≤ toN lo hi l ∨ k = fromN lo l) ∧ FVar wr w1.heap.size (l.length : Int) fr v ∧ OwnI wr (w1.heap.size + 1) v (itemsTo l (fromN lo l) k) hs ∧ Below w1.heap.size w1 wr) (fun iv _ => l.length - (intOf iv).toNat)
            case atStart => exact ⟨fromN lo l, _, [], rfl, Nat.le_refl _, .inr rfl, hF3, by rw [itemsTo_nil _ _ _ (Nat.le_refl _)]; exact ownI_nil _ _, hB3⟩
            case round =>
              clear hF3 hB3 hF2 HL
              obtain ⟨k, v, hs, rfl, hk1, hk2, hF, hO, hB⟩ := hrel
              by_cases hkt : k < toN lo hi l
              · have hkl : k < l.length := by omega
                have hki : (k : Int) < (toN lo hi l : Int) := by omega
                have hkl2 : (k : Int) < (l.length : Int) := by omega
                have hx := itemsTo_snoc l (fromN lo l) k hk1
                have hil := itemsTo_length l (fromN lo l) k
                have hat : itemAt l k = (l[k], path l k) := by unfold itemAt; rw [List.getElem?_eq_getElem hkl]; rfl
                rw [hat] at hx
                have hpk := HL1.out.2.2.1 l[k] (List.getElem_mem hkl)
                have hS := HL1.out.below hB
                have c1k := (hS.cells k hkl).1
                have c2k := (hS.cells k hkl).2
                have hbb : b < w1.heap.size := HL1.out.lt (by omega)
                have q1w := (HL1.out.cells k hkl).1
                have q2w := (HL1.out.cells k hkl).2
                have hbs := hB.size
                have HPth : Hid (∀ wx, Below wr.heap.size wr wx → Calls Tryz.prog 95 #[.slice (some ⟨b, off, none⟩) l.length cap, .int .i64 (k : Int)] wx fun e w' =>
                    ∃ g' n' cap', e = .returned (.slice (some ⟨g', 0, none⟩) n' cap') ∧ OwnS w' wx.heap.size g' n' cap' (path l k) ∧ Below wx.heap.size wx w') :=
                  fun wx hx => spec_l4Path l.length l rfl hl60 hlim k b off cap wx hkl (hS.below hx) hcap
                have e2 := hF.c2
                have HF := Hid.mk' hF
                have hfl : w1.heap.size < wr.heap.size := (Array.getElem?_eq_some_iff.1 hF).1
                have HO := Hid.mk' hO
                have HX := Hid.mk' hx
                have hne : some w1.heap.size ≠ v.ownBlock := fun e => by have := (HO.out.row.lt _ e.symm).1; omega
                have hd : Below wr.heap.size wr wr.drew := (Below.refl _ _).drew
                have hc3 : (itemsTo l (fromN lo l) k).length + 1 ≤ maxLen := by unfold maxLen; omega
                have hc4 : ((itemsTo l (fromN lo l) k).length + 1) * 56 ≤ 140737488355328 := by omega
                clear hx hat hF hO hS hil HL1
                generalize l[k] = p at *
                generalize path l k = P at *
                have HQa : Hid (∀ wx, Below w1.heap.size w1 wx → wx.cell? ⟨b, off + k * 2, none⟩ = some (.string p.1)) := fun wx hx => (hx.cell (p := ⟨b, off + k * 2, none⟩) hbb).trans q1w
                have HQb : Hid (∀ wx, Below w1.heap.size w1 wx → wx.cell? ⟨b, off + k * 2 + 1, none⟩ = some (.string p.2)) := fun wx hx => (hx.cell (p := ⟨b, off + k * 2 + 1, none⟩) hbb).trans q2w
                have HC1 : Hid (∀ wx, Below wr.heap.size wr wx → wx.cell? ⟨b, off + k * 2, none⟩ = some (.string p.1)) := fun wx hx => (hx.cell (p := ⟨b, off + k * 2, none⟩) (Nat.lt_of_lt_of_le hbb hbs)).trans c1k
                have HC2 : Hid (∀ wx, Below wr.heap.size wr wx → wx.cell? ⟨b, off + k * 2 + 1, none⟩ = some (.string p.2)) := fun wx hx => (hx.cell (p := ⟨b, off + k * 2 + 1, none⟩) (Nat.lt_of_lt_of_le hbb hbs)).trans c2k
                have HSZ : Hid (∀ wx, Below wr.heap.size wr wx → ∀ o, w1.heap.size + 1 ≤ (wx.alloc o).heap.size) := fun wx hx o => by have := hx.size; simp; omega
                go_upto_block 5 with (at_builtin; fail)
                go_cut [] from 66 to 83 (fun wx => ∃ v' hs', FVar wx w1.heap.size (l.length : Int) fr v' ∧ OwnI wx (w1.heap.size + 1) v' (itemsTo l (fromN lo l) (k + 1)) hs' ∧ Below w1.heap.size w1 wx)
                case first =>
                  clear hk1 hk2 hkt hki hto hsg hln HFr HTo hok2 hlim hl60 c0 c1 c2 z0 z1 z2 hlt hB1 hB2 hs2 hfr
                  have HQ1 : Hid (∀ wx, Below w1.heap.size w1 wx → wx.cell? ⟨b, off + k * 2, none⟩ = some (.string p.1)) := HQa
                  have HQ2 : Hid (∀ wx, Below w1.heap.size w1 wx → wx.cell? ⟨b, off + k * 2 + 1, none⟩ = some (.string p.2)) := HQb
                  go_wp2_with (at_builtin; fail)
                  refine wp_region_held_drew (S := fun w' => Below w1.heap.size w1 w') (by kernel_rfl) hB.drew (fun hHeld => ?_)
                  refine wpAnyH_take (i := 0) (v := .pointer (some ⟨w1.heap.size, 2, none⟩)) rfl (by kernel_rfl) (by kernel_rfl) (by kernel_rfl) (fun _ _ _ h => h) (Or.inl ⟨by rfl, ?_⟩) (by assumption) ?_
                  · intro wq hSq; go_simp
                  try simp only [Act.put, List.setIfInBounds_toArray, List.set_cons_zero, List.set_cons_succ]
                  refine wpAnyH_take (i := 2) (v := .slice (some ⟨b, off, none⟩) l.length cap) rfl (by kernel_rfl) (by kernel_rfl) (by kernel_rfl) (fun _ _ _ h => h) (Or.inl ⟨by rfl, ?_⟩) (by assumption) ?_
                  · intro wq hSq; go_simp
                  try simp only [Act.put, List.setIfInBounds_toArray, List.set_cons_zero, List.set_cons_succ]
                  refine wpAnyH_take (i := 3) (v := .int .i64 (k : Int)) rfl (by kernel_rfl) (by kernel_rfl) (by kernel_rfl) (fun _ _ _ h => h) (Or.inl ⟨by rfl, ?_⟩) (by assumption) ?_
                  · intro wq hSq; go_simp
                  try simp only [Act.put, List.setIfInBounds_toArray, List.set_cons_zero, List.set_cons_succ]
                  refine wpAnyH_take (i := 4) (v := .pointer (some ⟨b, off + k * 2, none⟩)) rfl (by kernel_rfl) (by kernel_rfl) (by kernel_rfl) (fun _ _ _ h => h) (Or.inl ⟨by rfl, ?_⟩) (by assumption) ?_
                  · intro wq hSq; go_simp
                  try simp only [Act.put, List.setIfInBounds_toArray, List.set_cons_zero, List.set_cons_succ]
                  refine wpAnyH_take (i := 5) (v := .agg #[.string p.1, .string p.2]) rfl (by kernel_rfl) (by kernel_rfl) (by kernel_rfl) (fun _ _ _ h => h) (Or.inl ⟨by rfl, ?_⟩) (by assumption) ?_
                  · intro wq hSq; have q1 := HQ1.out wq hSq; have q2 := HQ2.out wq hSq; go_simp
                  try simp only [Act.put, List.setIfInBounds_toArray, List.set_cons_zero, List.set_cons_succ]
                  refine wpAnyH_take (i := 6) (v := .slice (some ⟨b, off, none⟩) l.length cap) rfl (by kernel_rfl) (by kernel_rfl) (by kernel_rfl) (fun _ _ _ h => h) (Or.inl ⟨by rfl, ?_⟩) (by assumption) ?_
                  · intro wq hSq; go_simp
                  try simp only [Act.put, List.setIfInBounds_toArray, List.set_cons_zero, List.set_cons_succ]
                  refine wpAnyH_take (i := 7) (v := .int .i64 (k : Int)) rfl (by kernel_rfl) (by kernel_rfl) (by kernel_rfl) (fun _ _ _ h => h) (Or.inl ⟨by rfl, ?_⟩) (by assumption) ?_
                  · intro wq hSq; go_simp
                  try simp only [Act.put, List.setIfInBounds_toArray, List.set_cons_zero, List.set_cons_succ]
                  refine wpAnyH_ready (rs := [1, 8]) (by kernel_rfl) (by simp) ?_
                  refine AllReadyH.cons (o := { dst := some 72, op := Op.load 62 (Operand.tmp 71), type := 62, pos := "l05_range.go:28", after := #[{ on := 0, ground := Ground.data }], guard := none }) rfl (fun K hK => ?_) (AllReadyH.cons (o := { dst := some 79, op := Op.call { callee := Callee.value (Operand.func 95), args := #[Operand.tmp 77, Operand.tmp 78], argTypes := #[30, 3] }, type := 24, pos := "l05_range.go:28", after := #[{ on := 6, ground := Ground.data }, { on := 7, ground := Ground.data }], guard := none }) rfl (fun K hK => ?_) AllReadyH.nil)
                  · go_simp
                    refine hK.out _ _ (by assumption) (fun hHeld => ?_)
                    clear hK K
                    try simp only [Act.put, List.setIfInBounds_toArray, List.set_cons_zero, List.set_cons_succ]
                    refine wpAnyH_ready (rs := [8]) (by kernel_rfl) (by simp) ?_
                    refine AllReadyH.cons (o := { dst := some 79, op := Op.call { callee := Callee.value (Operand.func 95), args := #[Operand.tmp 77, Operand.tmp 78], argTypes := #[30, 3] }, type := 24, pos := "l05_range.go:28", after := #[{ on := 6, ground := Ground.data }, { on := 7, ground := Ground.data }], guard := none }) rfl (fun K hK => ?_) AllReadyH.nil
                    refine stepc.step_call_sl rfl 95 (.tmp 77) (.tmp 78) _ rfl l4Path_enters _ _ rfl rfl _ (HPth.out _ hd) ?_
                    rintro g5 n5 cp5 w5 ⟨hO5, hb5⟩
                    have hB5 := hd.trans (hb5.mono hd.size)
                    have hW5 := hB.trans (hB5.mono hbs)
                    have HF5 := Hid.mk' (HF.out.below hB5)
                    have m3 := HF5.out.c2
                    have m4 := (fvar_alloc HF5.out (.cells #[.string p.1, .string p.2, .slice (some ⟨g5, 0, none⟩) n5 cp5] 107)).c2
                    refine hK.out _ _ hW5 (fun hHeld => ?_)
                    clear hK K
                    try simp only [Act.put, List.setIfInBounds_toArray, List.set_cons_zero, List.set_cons_succ]
                    refine wpAnyH_take (i := 9) (v := .agg #[.string p.1, .string p.2, .slice (some ⟨g5, 0, none⟩) n5 cp5]) rfl (by kernel_rfl) (by kernel_rfl) (by kernel_rfl) (fun _ _ _ h => h) (Or.inl ⟨by rfl, ?_⟩) (by assumption) ?_
                    · intro wq hSq; go_simp
                    try simp only [Act.put, List.setIfInBounds_toArray, List.set_cons_zero, List.set_cons_succ]
                    refine wpAnyH_ready (rs := [10]) (by kernel_rfl) (by simp) ?_
                    refine AllReadyH.cons (o := { dst := some 81, op := Op.buildSlice 62 1 #[(0, Operand.tmp 80)], type := 62, pos := "l05_range.go:28", after := #[{ on := 9, ground := Ground.data }], guard := none }) rfl (fun K hK => ?_) AllReadyH.nil
                    go_simp
                    have hW6 := hW5.alloc hW5.size (.cells #[.string p.1, .string p.2, .slice (some ⟨g5, 0, none⟩) n5 cp5] 107)
                    refine hK.out _ _ hW6 (fun hHeld => ?_)
                    clear hK K
                    try simp only [Act.put, List.setIfInBounds_toArray, List.set_cons_zero, List.set_cons_succ]
                    refine wpAnyH_ready (rs := [11]) (by kernel_rfl) (by simp) ?_
                    refine AllReadyH.cons (o := { dst := some 82, op := Op.call { callee := Callee.builtin Builtin.append, args := #[Operand.tmp 72, Operand.tmp 81], argTypes := #[62, 62] }, type := 62, pos := "l05_range.go:28", after := #[{ on := 1, ground := Ground.data }, { on := 10, ground := Ground.data }, { on := 8, ground := Ground.chain }], guard := none }) rfl (fun K hK => ?_) AllReadyH.nil
                    refine step_append_own rfl (.tmp 72) (.tmp 81) 62 rfl (w1.heap.size + 1) 107 i0 (.agg #[.string ⟨#[]⟩, .string ⟨#[]⟩, .slice none 0 0]) 3 56 Tryz.underlying62 hif hz0 hz1 hz2 rfl (by decide) _ _ _ rfl ((HO.out.below hB5).row.alloc _) ⟨w5.heap.size, 0, none⟩ 1 1 [.string p.1, .string p.2, .slice (some ⟨g5, 0, none⟩) n5 cp5] rfl rfl (cells_three _ _ _ _ _) (three_oneCell _ _ _ _ _) hc3 hc4 (HSZ.out _ hB5 _) ?_
                    intro v7 w7 hown hgrow hnn
                    obtain ⟨g7, cap7, hv7⟩ := row_shape hown (fun e => by have := (hnn.1 e).2; omega)
                    subst hv7
                    have hW7 : Below w1.heap.size w1 w7 := hW6.grown hgrow hW6.size (fun j e => by have := (HO.out.row.lt j e).1; omega)
                    have HF7 := Hid.mk' (fvar_grown HF5.out hgrow hne)
                    have e7 := HF7.out.c2
                    have f7 := HF7.out.fz 2
                    refine hK.out _ _ hW7 (fun hHeld => ?_)
                    clear hK K
                    try simp only [Act.put, List.setIfInBounds_toArray, List.set_cons_zero, List.set_cons_succ]
                    refine wpAnyH_take (i := 12) (v := .pointer (some ⟨w1.heap.size, 2, none⟩)) rfl (by kernel_rfl) (by kernel_rfl) (by kernel_rfl) (fun _ _ _ h => h) (Or.inl ⟨by rfl, ?_⟩) (by assumption) ?_
                    · intro wq hSq; go_simp
                    try simp only [Act.put, List.setIfInBounds_toArray, List.set_cons_zero, List.set_cons_succ]
                    refine wpAnyH_ready (rs := [13]) (by kernel_rfl) (by simp) ?_
                    refine AllReadyH.cons (o := { dst := none, op := Op.store 62 (Operand.tmp 83) (Operand.tmp 82), type := 0, pos := "l05_range.go:28", after := #[{ on := 12, ground := Ground.data }, { on := 11, ground := Ground.data }, { on := 11, ground := Ground.chain }, { on := 0, ground := Ground.phase }, { on := 1, ground := Ground.phase }, { on := 2, ground := Ground.phase }, { on := 3, ground := Ground.phase }, { on := 4, ground := Ground.phase }, { on := 5, ground := Ground.phase }, { on := 6, ground := Ground.phase }, { on := 7, ground := Ground.phase }, { on := 8, ground := Ground.phase }, { on := 9, ground := Ground.phase }, { on := 10, ground := Ground.phase }, { on := 11, ground := Ground.phase }], guard := none }) rfl (fun K hK => ?_) AllReadyH.nil
                    go_simp
                    have hW8 := hW7.setCell (p := ⟨w1.heap.size, 2, none⟩) (Nat.le_refl _) (.slice (some ⟨g7, 0, none⟩) ((itemsTo l (fromN lo l) k).length + 1) cap7)
                    refine hK.out _ _ hW8 (fun hHeld => ?_)
                    clear hK K
                    try simp only [Act.put, List.setIfInBounds_toArray, List.set_cons_zero, List.set_cons_succ]
                    refine wpAnyH_done (by kernel_rfl) ?_ _
                    have hO7 := HO.out.snoc hB5 (hO5.mono (base' := w1.heap.size + 1) (by have := hd.size; omega)) (by have := hO5.lt.1; have := hd.size; omega) hpk _ hown hgrow
                    rw [← HX.out] at hO7
                    have hG7 := set_cur HF7.out 2 (.slice (some ⟨g7, 0, none⟩) ((itemsTo l (fromN lo l) k).length + 1) cap7)
                    have HO8 := Hid.mk' (hO7.grown hG7.2 (fun hh => by have := (hO7.lt _ hh).1; omega))
                    have HF8 : Hid (FVar _ w1.heap.size (l.length : Int) fr (.slice (some ⟨g7, 0, none⟩) ((itemsTo l (fromN lo l) k).length + 1) cap7)) := hG7.1
                    have HB8 := Hid.mk' hW8
                    clear hO7 hG7 hgrow hown hnn HF7 e7 f7 hO5 hb5 HF5 m3 m4 hW5 hW6 hW7 hW8 hHeld
                    go_wp2_with (at_builtin; fail)
                    go_meet
                    exact ⟨_, _, HF8.out, HO8.out, HB8.out⟩
                  · refine stepc.step_call_sl rfl 95 (.tmp 77) (.tmp 78) _ rfl l4Path_enters _ _ rfl rfl _ (HPth.out _ hd) ?_
                    rintro g5 n5 cp5 w5 ⟨hO5, hb5⟩
                    have hB5 := hd.trans (hb5.mono hd.size)
                    have hW5 := hB.trans (hB5.mono hbs)
                    have HF5 := Hid.mk' (HF.out.below hB5)
                    have m3 := HF5.out.c2
                    have m4 := (fvar_alloc HF5.out (.cells #[.string p.1, .string p.2, .slice (some ⟨g5, 0, none⟩) n5 cp5] 107)).c2
                    refine hK.out _ _ hW5 (fun hHeld => ?_)
                    clear hK K
                    try simp only [Act.put, List.setIfInBounds_toArray, List.set_cons_zero, List.set_cons_succ]
                    refine wpAnyH_take (i := 9) (v := .agg #[.string p.1, .string p.2, .slice (some ⟨g5, 0, none⟩) n5 cp5]) rfl (by kernel_rfl) (by kernel_rfl) (by kernel_rfl) (fun _ _ _ h => h) (Or.inl ⟨by rfl, ?_⟩) (by assumption) ?_
                    · intro wq hSq; go_simp
                    try simp only [Act.put, List.setIfInBounds_toArray, List.set_cons_zero, List.set_cons_succ]
                    refine wpAnyH_ready (rs := [1, 10]) (by kernel_rfl) (by simp) ?_
                    refine AllReadyH.cons (o := { dst := some 72, op := Op.load 62 (Operand.tmp 71), type := 62, pos := "l05_range.go:28", after := #[{ on := 0, ground := Ground.data }], guard := none }) rfl (fun K hK => ?_) (AllReadyH.cons (o := { dst := some 81, op := Op.buildSlice 62 1 #[(0, Operand.tmp 80)], type := 62, pos := "l05_range.go:28", after := #[{ on := 9, ground := Ground.data }], guard := none }) rfl (fun K hK => ?_) AllReadyH.nil)
                    · go_simp
                      refine hK.out _ _ (by assumption) (fun hHeld => ?_)
                      clear hK K
                      try simp only [Act.put, List.setIfInBounds_toArray, List.set_cons_zero, List.set_cons_succ]
                      refine wpAnyH_ready (rs := [10]) (by kernel_rfl) (by simp) ?_
                      refine AllReadyH.cons (o := { dst := some 81, op := Op.buildSlice 62 1 #[(0, Operand.tmp 80)], type := 62, pos := "l05_range.go:28", after := #[{ on := 9, ground := Ground.data }], guard := none }) rfl (fun K hK => ?_) AllReadyH.nil
                      go_simp
                      have hW6 := hW5.alloc hW5.size (.cells #[.string p.1, .string p.2, .slice (some ⟨g5, 0, none⟩) n5 cp5] 107)
                      refine hK.out _ _ hW6 (fun hHeld => ?_)
                      clear hK K
                      try simp only [Act.put, List.setIfInBounds_toArray, List.set_cons_zero, List.set_cons_succ]
                      refine wpAnyH_ready (rs := [11]) (by kernel_rfl) (by simp) ?_
                      refine AllReadyH.cons (o := { dst := some 82, op := Op.call { callee := Callee.builtin Builtin.append, args := #[Operand.tmp 72, Operand.tmp 81], argTypes := #[62, 62] }, type := 62, pos := "l05_range.go:28", after := #[{ on := 1, ground := Ground.data }, { on := 10, ground := Ground.data }, { on := 8, ground := Ground.chain }], guard := none }) rfl (fun K hK => ?_) AllReadyH.nil
                      refine step_append_own rfl (.tmp 72) (.tmp 81) 62 rfl (w1.heap.size + 1) 107 i0 (.agg #[.string ⟨#[]⟩, .string ⟨#[]⟩, .slice none 0 0]) 3 56 Tryz.underlying62 hif hz0 hz1 hz2 rfl (by decide) _ _ _ rfl ((HO.out.below hB5).row.alloc _) ⟨w5.heap.size, 0, none⟩ 1 1 [.string p.1, .string p.2, .slice (some ⟨g5, 0, none⟩) n5 cp5] rfl rfl (cells_three _ _ _ _ _) (three_oneCell _ _ _ _ _) hc3 hc4 (HSZ.out _ hB5 _) ?_
                      intro v7 w7 hown hgrow hnn
                      obtain ⟨g7, cap7, hv7⟩ := row_shape hown (fun e => by have := (hnn.1 e).2; omega)
                      subst hv7
                      have hW7 : Below w1.heap.size w1 w7 := hW6.grown hgrow hW6.size (fun j e => by have := (HO.out.row.lt j e).1; omega)
                      have HF7 := Hid.mk' (fvar_grown HF5.out hgrow hne)
                      have e7 := HF7.out.c2
                      have f7 := HF7.out.fz 2
                      refine hK.out _ _ hW7 (fun hHeld => ?_)
                      clear hK K
                      try simp only [Act.put, List.setIfInBounds_toArray, List.set_cons_zero, List.set_cons_succ]
                      refine wpAnyH_take (i := 12) (v := .pointer (some ⟨w1.heap.size, 2, none⟩)) rfl (by kernel_rfl) (by kernel_rfl) (by kernel_rfl) (fun _ _ _ h => h) (Or.inl ⟨by rfl, ?_⟩) (by assumption) ?_
                      · intro wq hSq; go_simp
                      try simp only [Act.put, List.setIfInBounds_toArray, List.set_cons_zero, List.set_cons_succ]
                      refine wpAnyH_ready (rs := [13]) (by kernel_rfl) (by simp) ?_
                      refine AllReadyH.cons (o := { dst := none, op := Op.store 62 (Operand.tmp 83) (Operand.tmp 82), type := 0, pos := "l05_range.go:28", after := #[{ on := 12, ground := Ground.data }, { on := 11, ground := Ground.data }, { on := 11, ground := Ground.chain }, { on := 0, ground := Ground.phase }, { on := 1, ground := Ground.phase }, { on := 2, ground := Ground.phase }, { on := 3, ground := Ground.phase }, { on := 4, ground := Ground.phase }, { on := 5, ground := Ground.phase }, { on := 6, ground := Ground.phase }, { on := 7, ground := Ground.phase }, { on := 8, ground := Ground.phase }, { on := 9, ground := Ground.phase }, { on := 10, ground := Ground.phase }, { on := 11, ground := Ground.phase }], guard := none }) rfl (fun K hK => ?_) AllReadyH.nil
                      go_simp
                      have hW8 := hW7.setCell (p := ⟨w1.heap.size, 2, none⟩) (Nat.le_refl _) (.slice (some ⟨g7, 0, none⟩) ((itemsTo l (fromN lo l) k).length + 1) cap7)
                      refine hK.out _ _ hW8 (fun hHeld => ?_)
                      clear hK K
                      try simp only [Act.put, List.setIfInBounds_toArray, List.set_cons_zero, List.set_cons_succ]
                      refine wpAnyH_done (by kernel_rfl) ?_ _
                      have hO7 := HO.out.snoc hB5 (hO5.mono (base' := w1.heap.size + 1) (by have := hd.size; omega)) (by have := hO5.lt.1; have := hd.size; omega) hpk _ hown hgrow
                      rw [← HX.out] at hO7
                      have hG7 := set_cur HF7.out 2 (.slice (some ⟨g7, 0, none⟩) ((itemsTo l (fromN lo l) k).length + 1) cap7)
                      have HO8 := Hid.mk' (hO7.grown hG7.2 (fun hh => by have := (hO7.lt _ hh).1; omega))
                      have HF8 : Hid (FVar _ w1.heap.size (l.length : Int) fr (.slice (some ⟨g7, 0, none⟩) ((itemsTo l (fromN lo l) k).length + 1) cap7)) := hG7.1
                      have HB8 := Hid.mk' hW8
                      clear hO7 hG7 hgrow hown hnn HF7 e7 f7 hO5 hb5 HF5 m3 m4 hW5 hW6 hW7 hW8 hHeld
                      go_wp2_with (at_builtin; fail)
                      go_meet
                      exact ⟨_, _, HF8.out, HO8.out, HB8.out⟩
                    · go_simp
                      have hW6 := hW5.alloc hW5.size (.cells #[.string p.1, .string p.2, .slice (some ⟨g5, 0, none⟩) n5 cp5] 107)
                      refine hK.out _ _ hW6 (fun hHeld => ?_)
                      clear hK K
                      try simp only [Act.put, List.setIfInBounds_toArray, List.set_cons_zero, List.set_cons_succ]
                      refine wpAnyH_ready (rs := [1]) (by kernel_rfl) (by simp) ?_
                      refine AllReadyH.cons (o := { dst := some 72, op := Op.load 62 (Operand.tmp 71), type := 62, pos := "l05_range.go:28", after := #[{ on := 0, ground := Ground.data }], guard := none }) rfl (fun K hK => ?_) AllReadyH.nil
                      go_simp
                      refine hK.out _ _ (by assumption) (fun hHeld => ?_)
                      clear hK K
                      try simp only [Act.put, List.setIfInBounds_toArray, List.set_cons_zero, List.set_cons_succ]
                      refine wpAnyH_ready (rs := [11]) (by kernel_rfl) (by simp) ?_
                      refine AllReadyH.cons (o := { dst := some 82, op := Op.call { callee := Callee.builtin Builtin.append, args := #[Operand.tmp 72, Operand.tmp 81], argTypes := #[62, 62] }, type := 62, pos := "l05_range.go:28", after := #[{ on := 1, ground := Ground.data }, { on := 10, ground := Ground.data }, { on := 8, ground := Ground.chain }], guard := none }) rfl (fun K hK => ?_) AllReadyH.nil
                      refine step_append_own rfl (.tmp 72) (.tmp 81) 62 rfl (w1.heap.size + 1) 107 i0 (.agg #[.string ⟨#[]⟩, .string ⟨#[]⟩, .slice none 0 0]) 3 56 Tryz.underlying62 hif hz0 hz1 hz2 rfl (by decide) _ _ _ rfl ((HO.out.below hB5).row.alloc _) ⟨w5.heap.size, 0, none⟩ 1 1 [.string p.1, .string p.2, .slice (some ⟨g5, 0, none⟩) n5 cp5] rfl rfl (cells_three _ _ _ _ _) (three_oneCell _ _ _ _ _) hc3 hc4 (HSZ.out _ hB5 _) ?_
                      intro v7 w7 hown hgrow hnn
                      obtain ⟨g7, cap7, hv7⟩ := row_shape hown (fun e => by have := (hnn.1 e).2; omega)
                      subst hv7
                      have hW7 : Below w1.heap.size w1 w7 := hW6.grown hgrow hW6.size (fun j e => by have := (HO.out.row.lt j e).1; omega)
                      have HF7 := Hid.mk' (fvar_grown HF5.out hgrow hne)
                      have e7 := HF7.out.c2
                      have f7 := HF7.out.fz 2
                      refine hK.out _ _ hW7 (fun hHeld => ?_)
                      clear hK K
                      try simp only [Act.put, List.setIfInBounds_toArray, List.set_cons_zero, List.set_cons_succ]
                      refine wpAnyH_take (i := 12) (v := .pointer (some ⟨w1.heap.size, 2, none⟩)) rfl (by kernel_rfl) (by kernel_rfl) (by kernel_rfl) (fun _ _ _ h => h) (Or.inl ⟨by rfl, ?_⟩) (by assumption) ?_
                      · intro wq hSq; go_simp
                      try simp only [Act.put, List.setIfInBounds_toArray, List.set_cons_zero, List.set_cons_succ]
                      refine wpAnyH_ready (rs := [13]) (by kernel_rfl) (by simp) ?_
                      refine AllReadyH.cons (o := { dst := none, op := Op.store 62 (Operand.tmp 83) (Operand.tmp 82), type := 0, pos := "l05_range.go:28", after := #[{ on := 12, ground := Ground.data }, { on := 11, ground := Ground.data }, { on := 11, ground := Ground.chain }, { on := 0, ground := Ground.phase }, { on := 1, ground := Ground.phase }, { on := 2, ground := Ground.phase }, { on := 3, ground := Ground.phase }, { on := 4, ground := Ground.phase }, { on := 5, ground := Ground.phase }, { on := 6, ground := Ground.phase }, { on := 7, ground := Ground.phase }, { on := 8, ground := Ground.phase }, { on := 9, ground := Ground.phase }, { on := 10, ground := Ground.phase }, { on := 11, ground := Ground.phase }], guard := none }) rfl (fun K hK => ?_) AllReadyH.nil
                      go_simp
                      have hW8 := hW7.setCell (p := ⟨w1.heap.size, 2, none⟩) (Nat.le_refl _) (.slice (some ⟨g7, 0, none⟩) ((itemsTo l (fromN lo l) k).length + 1) cap7)
                      refine hK.out _ _ hW8 (fun hHeld => ?_)
                      clear hK K
                      try simp only [Act.put, List.setIfInBounds_toArray, List.set_cons_zero, List.set_cons_succ]
                      refine wpAnyH_done (by kernel_rfl) ?_ _
                      have hO7 := HO.out.snoc hB5 (hO5.mono (base' := w1.heap.size + 1) (by have := hd.size; omega)) (by have := hO5.lt.1; have := hd.size; omega) hpk _ hown hgrow
                      rw [← HX.out] at hO7
                      have hG7 := set_cur HF7.out 2 (.slice (some ⟨g7, 0, none⟩) ((itemsTo l (fromN lo l) k).length + 1) cap7)
                      have HO8 := Hid.mk' (hO7.grown hG7.2 (fun hh => by have := (hO7.lt _ hh).1; omega))
                      have HF8 : Hid (FVar _ w1.heap.size (l.length : Int) fr (.slice (some ⟨g7, 0, none⟩) ((itemsTo l (fromN lo l) k).length + 1) cap7)) := hG7.1
                      have HB8 := Hid.mk' hW8
                      clear hO7 hG7 hgrow hown hnn HF7 e7 f7 hO5 hb5 HF5 m3 m4 hW5 hW6 hW7 hW8 hHeld
                      go_wp2_with (at_builtin; fail)
                      go_meet
                      exact ⟨_, _, HF8.out, HO8.out, HB8.out⟩
                case rest =>
                  obtain ⟨v', hs', hF', hO', hB'⟩ := hcut
                  have HF' := Hid.mk' hF'
                  have HO' := Hid.mk' hO'
                  clear hF' hO'
                  go_wp2_with (at_builtin; fail)
                  go_roundw
                  case rel => exact ⟨k + 1, v', hs', by go_num, by omega, .inl (by omega), HF'.out, HO'.out, hB'⟩
                  case measure => simp [intOf]; omega
              · have hkn : ¬ (k : Int) < (toN lo hi l : Int) := by omega
                have HIT : Hid (itemsTo l (fromN lo l) k = (prove l lo hi).items) := by
                  show _ = _
                  unfold prove; rw [if_pos hok2]
                  rcases hk2 with h1 | h1
                  · rw [show k = toN lo hi l by omega]
                  · rw [itemsTo_nil l _ k (by omega), itemsTo_nil l _ (toN lo hi l) (by omega)]
                have HPN : Hid ((prove l lo hi).n = (l.length : Int)) := by show _ = _; unfold prove; rw [if_pos hok2]
                have HPF : Hid ((prove l lo hi).fr = fr) := by show _ = _; unfold prove; rw [if_pos hok2]; exact hfr
                have hrl : w.heap.size < w1.heap.size := World.block_lt_of_cell? w1 _ c0
                have d0 := (hB.cell (p := ⟨w.heap.size, 0, none⟩) hrl).trans c0
                have d1 := (hB.cell (p := ⟨w.heap.size, 1, none⟩) hrl).trans c1
                have d2 := (hB.cell (p := ⟨w.heap.size, 2, none⟩) hrl).trans c2
                have y0 := (hB.frozen (p := ⟨w.heap.size, 0, none⟩) hrl).trans z0
                have y1 := (hB.frozen (p := ⟨w.heap.size, 1, none⟩) hrl).trans z1
                have y2 := (hB.frozen (p := ⟨w.heap.size, 2, none⟩) hrl).trans z2
                have a0 := hF.c0
                have a1 := hF.c1
                have a2 := hF.c2
                have hBw : Below w.heap.size w wr := hB1.trans (hB.mono (Nat.le_of_lt hrl))
                have hBz := ((hBw.setCell (p := ⟨w.heap.size, 0, none⟩) (Nat.le_refl _) (.int .i64 (l.length : Int))).setCell (p := ⟨w.heap.size, 1, none⟩) (Nat.le_refl _) (.int .i64 fr)).setCell (p := ⟨w.heap.size, 2, none⟩) (Nat.le_refl _) v
                have hOz : OwnI (((wr.setCell ⟨w.heap.size, 0, none⟩ (.int .i64 (l.length : Int))).setCell ⟨w.heap.size, 1, none⟩ (.int .i64 fr)).setCell ⟨w.heap.size, 2, none⟩ v) (w1.heap.size + 1) v (itemsTo l (fromN lo l) k) hs := by
                  refine hO.of_blocks (fun j hj => ?_)
                  have hj2 := (hO.lt j hj).1
                  have hjn : j ≠ w.heap.size := by omega
                  rw [heap_setCell_other _ ⟨w.heap.size, 2, none⟩ j _ hjn, heap_setCell_other _ ⟨w.heap.size, 1, none⟩ j _ hjn, heap_setCell_other _ ⟨w.heap.size, 0, none⟩ j _ hjn]
                rw [HIT.out] at hOz
                have HOZ := Hid.mk' (hOz.mono (base' := w.heap.size) (by omega))
                obtain ⟨sa, sm, sc, hv⟩ : ∃ sa sm sc, v = .slice sa sm sc := by
                  rcases hO.shape with ⟨rfl, _, _⟩ | ⟨g, cg, rfl, _, _⟩
                  · exact ⟨_, _, _, rfl⟩
                  · exact ⟨_, _, _, rfl⟩
                subst hv
                have HPO : Hid (PPost w (prove l lo hi) (.returned (.agg #[.int .i64 (l.length : Int), .int .i64 fr, .slice sa sm sc])) (((wr.setCell ⟨w.heap.size, 0, none⟩ (.int .i64 (l.length : Int))).setCell ⟨w.heap.size, 1, none⟩ (.int .i64 fr)).setCell ⟨w.heap.size, 2, none⟩ (.slice sa sm sc))) :=
                  ⟨sa, sm, sc, hs, by rw [HPN.out, HPF.out], HOZ.out, hBz⟩
                clear hO hF hOz hBz hBw hB c0 c1 c2 z0 z1 z2 hk1 hk2 HIT HOZ HPN HPF
                go_wp2_with fail
                refine bodyPost_ret (v := .agg #[.int .i64 (l.length : Int), .int .i64 fr, .slice sa sm sc]) ?h1 rfl HPO.out
                simp [results, Tryz.results54, go_sem, a0, a1, a2, d0, d1, d2]

theorem spec_proveBetween (b off len cap : Nat) (l : List Pr) (lo hi : ByteArray) (w : World) (h : SlP w (some ⟨b, off, none⟩) len l) (hcap : len ≤ cap) (hks : ∀ p ∈ l, lim p) :
    Calls Tryz.prog 54 #[.slice (some ⟨b, off, none⟩) len cap, .string lo, .string hi] w (PPost w (prove l lo hi)) := by
  have hl := h.1
  subst hl
  have hk2 : ∀ p ∈ l, p.1.size ≤ 1099511627776 := fun p hp => by have := (hks p hp).1; omega
  cases hok : pairsOk l with
  | true => exact spec_proveYes b off cap l lo hi w h hcap hk2 hok
  | false =>
    refine (spec_proveNo b off cap l lo hi w h hk2 hok).mono ?_
    rintro e w' ⟨rfl, hb⟩
    have hp : prove l lo hi = zeroPrf := by unfold prove; rw [hok]; rfl
    rw [hp]
    exact ⟨none, 0, 0, [], rfl, ownI_nil _ _, hb⟩
end Go.Proofs.YteammdkipnfmnaaGreatDoor.range
