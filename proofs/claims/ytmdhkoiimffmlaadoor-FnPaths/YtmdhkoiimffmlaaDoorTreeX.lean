/- The program's check of a path. -/
import Derived.Test.YtmdhkoiimffmlaaDoorTreeK
namespace Go.Proofs.YtmdhkoiimffmlaaDoor.tree
open Go Go.RowKit Go.Proofs.YtmdhkoiimffmlaaDoor.base Go.Proofs.YtmdhkoiimffmlaaDoor.pairs Go.Proofs.YtmdhkoiimffmlaaDoor.puttext Go.Proofs.YtmdhkoiimffmlaaDoor.putnum
set_option linter.unusedVariables false
set_option linter.unusedSimpArgs false

set_option maxHeartbeats 1000000 in
theorem impl_fitsNot (I N : Int) (a : Option Addr) (len cap : Nat) (w : World) (h : ¬ (N ≤ 60 ∧ 0 ≤ I ∧ I < N)) :
    Calls Tryd.prog 53 #[.int .i64 I, .int .i64 N, .slice a len cap] w fun e w' => e = .returned (.bool false) ∧ Below w.heap.size w w' := by
  have hd : (decide (N ≤ 60) && decide (0 ≤ I) && decide (I < N)) = false := by
    rw [Bool.and_eq_false_iff, Bool.and_eq_false_iff, decide_eq_false_iff_not, decide_eq_false_iff_not, decide_eq_false_iff_not]; omega
  have hp := impl_placeOk I N w
  rw [hd] at hp
  have HP := Hid.mk' hp
  clear hp hd h
  go_enter Tryd.func53, Tryd.ntmps53
  go_wp2_with fail
  refine HP.out.mono ?_
  rintro e w1 ⟨rfl, hw1⟩
  subst hw1
  go_wp2_with fail
  go_ret
  exact ⟨rfl, Below.refl _ _⟩

set_option maxHeartbeats 1000000 in
theorem impl_fits (i n : Nat) (a : Option Addr) (len cap : Nat) (w : World) (hin : i < n) (h60 : n ≤ 60) (hlen : len ≤ maxLen) :
    Calls Tryd.prog 53 #[.int .i64 (i : Int), .int .i64 (n : Int), .slice a len cap] w fun e w' => e = .returned (.bool (decide (len = depth i n))) ∧ Below w.heap.size w w' := by
  have hp := impl_placeOk (i : Int) (n : Int) w
  rw [decide_eq_true (show (n : Int) ≤ 60 by omega), decide_eq_true (show (0 : Int) ≤ (i : Int) by omega), decide_eq_true (show (i : Int) < (n : Int) by omega)] at hp
  have HP := Hid.mk' hp
  have HS := Hid.mk' (fun wx => impl_sides i n wx hin h60)
  have HL := Hid.mk' (sides_length i n)
  have hdl := depth_le i n
  generalize depth i n = d at *
  clear hp
  by_cases he : len = d
  · subst he
    go_enter Tryd.func53, Tryd.ntmps53
    go_wp2_with fail
    refine HP.out.mono ?_
    rintro e w1 ⟨rfl, hw1⟩
    subst hw1
    go_wp2_with fail
    refine (HS.out _).mono ?_
    rintro e w2 ⟨g, m, c, rfl, hO, hB⟩
    have hm : m = len := by have := hO.1; have := HL.out; omega
    subst hm
    clear hO
    go_wp2_with fail
    go_ret
    exact ⟨ret_bool (by simp), hB⟩
  · have hei : ¬ (len : Int) = (d : Int) := by omega
    have HE : Hid (decide (len = d) = false) := decide_eq_false he
    clear he
    go_enter Tryd.func53, Tryd.ntmps53
    go_wp2_with fail
    refine HP.out.mono ?_
    rintro e w1 ⟨rfl, hw1⟩
    subst hw1
    go_wp2_with fail
    refine (HS.out _).mono ?_
    rintro e w2 ⟨g, m, c, rfl, hO, hB⟩
    have hm : m = d := by have := hO.1; have := HL.out; omega
    subst hm
    clear hO
    go_wp2_with fail
    go_ret
    exact ⟨ret_bool (by rw [HE.out]; exact beq_eq_false_iff_ne.2 hei), hB⟩

set_option maxRecDepth 100000 in
set_option maxHeartbeats 2000000 in
theorem impl_checkPath (p : Pr) (I N : Int) (pb po pcap : Nat) (P : List ByteArray) (root : ByteArray) (w : World) (hp : lim p) (hP : SlS w (some ⟨pb, po, none⟩) P.length P) (hPs : ∀ s ∈ P, s.size ≤ 137438953472) (hpc : P.length ≤ pcap) (hr : root.size ≤ maxLen) (hI : (Lit.int .i64 I).wf = true) (hN : (Lit.int .i64 N).wf = true) (hK : sha.KW w) :
    Calls Tryd.prog 20 #[.agg #[.string p.1, .string p.2], .int .i64 I, .int .i64 N, .slice (some ⟨pb, po, none⟩) P.length pcap, .string root] w fun e w' => e = .returned (.bool (checkPathI p I N P root)) ∧ Below w.heap.size w w' := by
  have hPm := hP.2.1
  obtain ⟨w0, hw0⟩ : ∃ w0, w0 = w.alloc (.cells #[.string p.1, .string p.2] 38) := ⟨_, rfl⟩
  have hba : Below w.heap.size w w0 := by rw [hw0]; exact (Below.refl _ _).alloc (Nat.le_refl _) _
  have hc1 : w0.cell? ⟨w.heap.size, 0, none⟩ = some (.string p.1) := by rw [hw0]; simp
  have hc2 : w0.cell? ⟨w.heap.size, 1, none⟩ = some (.string p.2) := by rw [hw0]; simp
  by_cases hpl : N ≤ 60 ∧ 0 ≤ I ∧ I < N
  · obtain ⟨n, hn⟩ : ∃ n : Nat, N = (n : Int) := ⟨N.toNat, by omega⟩
    subst hn
    obtain ⟨i, hi⟩ : ∃ i : Nat, I = (i : Int) := ⟨I.toNat, by omega⟩
    subst hi
    have hin : i < n := by omega
    have hn60 : n ≤ 60 := by omega
    have hci : checkPathI p (i : Int) (n : Int) P root = checkPath p i n P root := by
      unfold checkPathI; rw [decide_eq_true (show 1 ≤ (n : Int) ∧ (n : Int) ≤ 60 by omega), decide_eq_true (show 0 ≤ (i : Int) ∧ (i : Int) ≤ (n : Int) - 1 by omega), Int.toNat_natCast, Int.toNat_natCast]; rfl
    have hdl := depth_le i n
    by_cases hfit : P.length = depth i n
    · have hF := fun wx => impl_fits i n (some ⟨pb, po, none⟩) P.length pcap wx hin hn60 hPm
      rw [decide_eq_true hfit] at hF
      have HF := Hid.mk' hF
      have HC : Hid (checkPathI p (i : Int) (n : Int) P root = decide (dg (topB (n : Int) (ups (leafOf p) ((sides i n).zip P))) = root)) := by show _ = _; rw [hci, check_ups hfit]
      have HH : Hid (∀ wx, Below w.heap.size w wx → Calls Tryd.prog 54 #[.agg #[.string p.1, .string p.2], .int .i64 (i : Int), .int .i64 (n : Int), .slice (some ⟨pb, po, none⟩) P.length pcap] wx (HUp wx (topB (n : Int) (ups (leafOf p) ((sides i n).zip P))))) :=
        fun wx hx => impl_hashedUp p i n pb po pcap P wx hp hin hn60 (hP.below hx) hPs hpc hfit (hK.below hx)
      have htl := topB_length (n : Int) (ups (leafOf p) ((sides i n).zip P))
      have hus := ups_size (leafOf p) ((sides i n).zip P) (dg_size _)
      have HK := Hid.mk' hK
      generalize topB (n : Int) (ups (leafOf p) ((sides i n).zip P)) = T at *
      clear hF hci hfit hpl hP hPs hK hdl
      go_enter Tryd.func20, Tryd.ntmps20
      go_wp2_with fail
      rw [← hw0]
      clear hw0
      refine (HF.out _).mono ?_
      rintro e w1 ⟨rfl, hb1⟩
      have hB1 : Below w.heap.size w w1 := hba.trans (hb1.mono hba.size)
      have hl0 : w.heap.size < w0.heap.size := World.block_lt_of_cell? w0 _ hc1
      have hd1 := (hb1.cell (p := ⟨w.heap.size, 0, none⟩) hl0).trans hc1
      have hd2 := (hb1.cell (p := ⟨w.heap.size, 1, none⟩) hl0).trans hc2
      clear HF hc1 hc2 hb1 hba
      go_wp2_with fail
      refine (HH.out _ hB1).mono ?_
      rintro e w2 ⟨hb2, g, m, c, gb, nb, cb, rfl, hm, hcl, hSl⟩
      have hB2 : Below w.heap.size w w2 := hB1.trans (hb2.mono hB1.size)
      have hnb : nb ≤ 100 := by have := hSl.1; omega
      have HD := Hid.mk' (sha.impl_digest gb 0 nb cb T w2 hSl (by omega) (HK.out.below hB2))
      have q1 : ((m + 1 : Nat) : Int) - 1 = (m : Int) := by omega
      clear hb2 hd1 hd2 HH hSl hB1
      go_wp2_with fail
      refine HD.out.mono ?_
      rintro e w4 ⟨rfl, hb4⟩
      have hB4 : Below w.heap.size w w4 := hB2.trans (hb4.mono hB2.size)
      have hdd : (⟨(sha.digest T).toArray⟩ : ByteArray) = dg T := rfl
      rw [hdd]
      generalize dg T = d at *
      clear HD hb4 hcl hdd
      by_cases he : d = root
      · subst he
        go_wp2_with fail
        go_ret
        exact ⟨ret_bool (by rw [HC.out]; simp), hB4⟩
      · have hq : (d.toList == root.toList) = false := by
          rw [beq_eq_false_iff_ne]; intro e; rw [ByteArray.toList_eq, ByteArray.toList_eq] at e; exact he (bytes_ext e)
        have HE : Hid (¬ d = root) := he
        clear he
        go_wp2_with fail
        go_ret
        exact ⟨ret_bool (by rw [HC.out, decide_eq_false HE.out]), hB4⟩
    · have HC : Hid (checkPathI p (i : Int) (n : Int) P root = false) := by show _ = _; rw [hci]; exact check_not hfit
      have hF := fun wx => impl_fits i n (some ⟨pb, po, none⟩) P.length pcap wx hin hn60 hPm
      rw [decide_eq_false hfit] at hF
      have HF := Hid.mk' hF
      clear hF hfit hpl hP hPs hK hci hdl
      go_enter Tryd.func20, Tryd.ntmps20
      go_wp2_with fail
      rw [← hw0]
      clear hw0
      refine (HF.out _).mono ?_
      rintro e w1 ⟨rfl, hb1⟩
      have hB1 : Below w.heap.size w w1 := hba.trans (hb1.mono hba.size)
      clear HF hc1 hc2 hb1 hba
      go_wp2_with fail
      go_ret
      exact ⟨ret_bool (by rw [HC.out]), hB1⟩
  · have HC : Hid (checkPathI p I N P root = false) := by
      show _ = _
      unfold checkPathI
      by_cases h1 : 1 ≤ N ∧ N ≤ 60
      · rw [decide_eq_false (show ¬ (0 ≤ I ∧ I ≤ N - 1) by omega)]; simp
      · rw [decide_eq_false h1]; simp
    have HF := Hid.mk' (fun wx => impl_fitsNot I N (some ⟨pb, po, none⟩) P.length pcap wx hpl)
    clear hpl hP hPs hK
    go_enter Tryd.func20, Tryd.ntmps20
    go_wp2_with fail
    rw [← hw0]
    clear hw0
    refine (HF.out _).mono ?_
    rintro e w1 ⟨rfl, hb1⟩
    have hB1 : Below w.heap.size w w1 := hba.trans (hb1.mono hba.size)
    clear HF hc1 hc2 hb1 hba
    go_wp2_with fail
    go_ret
    exact ⟨ret_bool (by rw [HC.out]), hB1⟩
end Go.Proofs.YtmdhkoiimffmlaaDoor.tree
