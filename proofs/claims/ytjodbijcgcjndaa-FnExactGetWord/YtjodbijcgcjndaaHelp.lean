/- The laws' own helpers on slices of bytes: what each call does. -/
import Derived.Test.YtjodbijcgcjndaaRows
import Derived.Test.YtjodbijcgcjndaaBase
import Derived.Test.YtjodbijcgcjndaaApp
import Derived.Deep.QuietTactic
import Derived.BigQuiet
namespace Go.Proofs.Ytjodbijcgcjndaa.help
open Go.RowKit Go.Proofs.Ytjodbijcgcjndaa.base
set_option linter.unusedVariables false
set_option linter.unusedSimpArgs false

/-- copying: behind k rounds the first k cells are the argument's, the others nought -/
def copyTo (bs : List UInt8) (k : Nat) : List UInt8 := bs.take k ++ List.replicate (bs.length - k) 0
theorem copyTo_length (bs : List UInt8) (k : Nat) (h : k ≤ bs.length) : (copyTo bs k).length = bs.length := by simp [copyTo]; omega
theorem copyTo_zero (bs : List UInt8) : copyTo bs 0 = List.replicate bs.length 0 := by simp [copyTo]
theorem copyTo_all (bs : List UInt8) : copyTo bs bs.length = bs := by simp [copyTo]
theorem copyTo_set (bs : List UInt8) (k : Nat) (h : k < bs.length) : (copyTo bs k).set k bs[k] = copyTo bs (k + 1) := by
  apply List.ext_getElem?
  intro j
  simp only [copyTo, List.getElem?_set, List.getElem?_append, List.length_append, List.length_take, List.length_replicate, List.getElem?_take, List.getElem?_replicate]
  have e : min k bs.length = k := by omega
  have e1 : min (k + 1) bs.length = k + 1 := by omega
  rw [e, e1]
  by_cases hj : j = k
  · subst hj; simp [h]; omega
  · by_cases h1 : j < k
    · simp [h1, show ¬ k = j by omega, show j < k + 1 by omega]
    · simp [h1, show ¬ k = j by omega, show ¬ j < k + 1 by omega, show (j - k < bs.length - k ↔ j - (k + 1) < bs.length - (k + 1)) by omega]
set_option maxHeartbeats 400000 in
theorem toByteS (a : Option Addr) (len cap : Nat) (bs : List UInt8) (w : World) (h : Sl w a len bs) (hsz : len ≤ 1099511627776) :
    Calls Try.prog 25 #[.slice a len cap] w fun e w' => ∃ g, e = .returned (.slice (some ⟨g, 0, none⟩) len len) ∧ Own w' w.heap.size g len len bs ∧ Below w.heap.size w w' := by
  obtain ⟨hl, hm, hc⟩ := h
  subst hl
  have hm' := hm
  unfold maxLen at hm'
  go_enter Try.func25, Try.ntmps25
  obtain ⟨i0, hi, hz0, hz1, hz2⟩ := info_parts info8
  go_wp2_with (at_make; refine wpList_make_full _ rfl _ _ 22 rfl w.heap.size 5 i0 (.int .u8 0) 1 Try.underlying22 hi hz0 hz1 _ _ _ _ bs.length rfl rfl rfl rfl ?b2 ?b3 ?b4 ?_)
  case b2 => rw [hz2]; omega
  case b3 => exact hm
  case b4 => exact Nat.le_refl _
  intro w1 hown hgrow
  have hOwn : Own w1 w.heap.size w.heap.size bs.length bs.length (copyTo bs 0) := by
    refine ⟨copyTo_length bs 0 (Nat.zero_le _), ?_⟩
    rw [copyTo_zero]
    have e : byteVals (List.replicate bs.length 0) = (madeCells #[.int .u8 0] bs.length).toList := by
      simp [byteVals, toList_madeCells_one]
    rw [e]; exact hown
  have hbel : Below w.heap.size w w1 := (Below.refl _ _).grown hgrow (Nat.le_refl _) (fun k e => by cases e)
  clear hown hgrow hi hz0 hz1 hz2
  go_wp2
  go_loopw [4] (fun i wr => ∃ k : Nat, k ≤ bs.length ∧ i = .int .i64 k ∧ Own wr w.heap.size w.heap.size bs.length bs.length (copyTo bs k) ∧ Below w.heap.size w wr) (fun i _ => bs.length - (intOf i).toNat)
  case atStart => exact ⟨0, Nat.zero_le _, rfl, hOwn, hbel⟩
  case round =>
    clear hOwn hbel
    obtain ⟨k, hk, rfl, hO, hB⟩ := hrel
    by_cases hlt : k < bs.length
    · obtain ⟨b, off, ha, hcl⟩ := hc (by omega)
      subst ha
      have hbb : b < w.heap.size := World.block_lt_of_cell? w _ (hcl k hlt)
      have c1 : wr.cell? ⟨b, off + k, none⟩ = some (.int .u8 bs[k].toNat) := (hB.cell (p := ⟨b, off + k, none⟩) hbb).trans (hcl k hlt)
      have c2 : wr.cell? ⟨w.heap.size, k, none⟩ = some (.int .u8 (copyTo bs k)[k]!.toNat) := by
        have hx := hO.at k (by rw [copyTo_length bs k hk]; exact hlt)
        rw [hx, getElem!_pos (copyTo bs k) k (by rw [copyTo_length bs k hk]; exact hlt)]
      have c3 : wr.frozen? ⟨w.heap.size, k, none⟩ = false := hO.frozen k
      have R := own_set hO k bs[k]
      rw [copyTo_set bs k hlt] at R
      have HR := Hid.mk' R
      clear R hcl hc
      go_wp2
      go_roundw
      case rel => exact ⟨k + 1, by omega, by go_num, HR.out.1, hB.trans (below_grown HR.out.2 (Nat.le_refl _) hB.size)⟩
      case measure => simp [intOf]; omega
    · go_wp2
      go_ret
      have e : k = bs.length := by omega
      subst e
      rw [copyTo_all] at hO
      exact ⟨_, rfl, hO, hB⟩

theorem take_eq {bs bs2 : List UInt8} {k : Nat} (h : bs.take k = bs2.take k) (h1 : k < bs.length) (h2 : k < bs2.length) (e : bs[k] = bs2[k]) : bs.take (k + 1) = bs2.take (k + 1) := by
  rw [List.take_succ_eq_append_getElem h1, List.take_succ_eq_append_getElem h2, h, e]

set_option maxHeartbeats 400000 in
theorem eqByteS (a a2 : Option Addr) (len cap len2 cap2 : Nat) (bs bs2 : List UInt8) (w : World) (h : Sl w a len bs) (h2 : Sl w a2 len2 bs2) :
    Calls Try.prog 21 #[.slice a len cap, .slice a2 len2 cap2] w fun e w' => e = .returned (.bool (decide (bs = bs2))) ∧ ∃ n, w' = w.drewN n := by
  obtain ⟨hl, hm, hc⟩ := h
  obtain ⟨hl2, hm2, hc2⟩ := h2
  subst hl hl2
  unfold maxLen at hm hm2
  by_cases hne : bs.length = bs2.length
  · have hb : ((bs.length : Int) == (bs2.length : Int)) = true := by simp; omega
    go_enter Try.func21, Try.ntmps21
    go_wp2
    go_loopw [5] (fun i wr => ∃ k : Nat, k ≤ bs.length ∧ i = .int .i64 k ∧ bs.take k = bs2.take k ∧ ∃ n, wr = w.drewN n) (fun i _ => bs.length - (intOf i).toNat)
    case atStart => exact ⟨0, Nat.zero_le _, rfl, rfl, 0, rfl⟩
    case round =>
      obtain ⟨k, hk, rfl, htk, n, rfl⟩ := hrel
      by_cases hlt : k < bs.length
      · obtain ⟨b, off, ha, hcl⟩ := hc (by omega)
        obtain ⟨b2, off2, ha2, hcl2⟩ := hc2 (by omega)
        subst ha ha2
        have hlt2 : k < bs2.length := by omega
        have hi1 : (k : Int) < (bs.length : Int) := by omega
        have hi2 : (k : Int) < (bs2.length : Int) := by omega
        have c1 : w.cell? ⟨b, off + k, none⟩ = some (.int .u8 bs[k].toNat) := hcl k hlt
        have c2 : w.cell? ⟨b2, off2 + k, none⟩ = some (.int .u8 bs2[k].toNat) := hcl2 k hlt2
        have HT := Hid.mk' htk
        clear hcl hcl2 hc hc2 htk hne
        by_cases e : bs[k] = bs2[k]
        · have hq : ((bs[k].toNat : Int) == (bs2[k].toNat : Int)) = true := by rw [e]; simp
          go_wp2
          go_quiet (fail)
          go_wp2
          go_roundw
          case rel => exact ⟨k + 1, by omega, by go_num, take_eq HT.out hlt hlt2 e, _, rfl⟩
          case measure => simp [intOf]; omega
        · have hq : ((bs[k].toNat : Int) == (bs2[k].toNat : Int)) = false := by
            simp only [beq_eq_false_iff_ne]; intro h; exact e (UInt8.toNat_inj.1 (by omega))
          go_wp2
          go_quiet (fail)
          go_wp2
          go_ret
          exact ⟨ret_bool (by symm; rw [decide_eq_false_iff_not]; intro h; subst h; exact e rfl), _, World.drewN_drewN _ _ _⟩
      · have e : k = bs.length := by omega
        have hfin : bs = bs2 := by
          subst e
          rw [List.take_of_length_le (Nat.le_refl _), List.take_of_length_le (by omega)] at htk
          exact htk
        have HF := Hid.mk' hfin
        clear hfin htk
        go_wp2
        go_ret
        exact ⟨ret_bool (by symm; rw [decide_eq_true_iff]; exact HF.out), _, rfl⟩
  · have hb : ((bs.length : Int) == (bs2.length : Int)) = false := by simp; omega
    go_enter Try.func21, Try.ntmps21
    go_wp2
    go_ret
    exact ⟨ret_bool (by symm; rw [decide_eq_false_iff_not]; intro h; exact hne (by rw [h])), 0, rfl⟩

/-- k, k+1, .. as bytes over the first places -/
def markTo (bs : List UInt8) (k0 : Nat) (i : Nat) : List UInt8 := (List.range i).map (fun j => UInt8.ofNat (k0 + j)) ++ bs.drop i
theorem markTo_length (bs : List UInt8) (k0 i : Nat) (h : i ≤ bs.length) : (markTo bs k0 i).length = bs.length := by simp [markTo]; omega
theorem markTo_zero (bs : List UInt8) (k0 : Nat) : markTo bs k0 0 = bs := by simp [markTo]
theorem markTo_set (bs : List UInt8) (k0 i : Nat) (h : i < bs.length) : (markTo bs k0 i).set i (UInt8.ofNat (k0 + i)) = markTo bs k0 (i + 1) := by
  unfold markTo
  rw [List.set_append_right _ _ (by simp)]
  simp only [List.length_map, List.length_range, Nat.sub_self, List.range_succ, List.map_append, List.map_cons, List.map_nil, List.append_assoc]
  congr 1
  rw [List.drop_eq_getElem_cons h]
  rfl
/-- what markByteS leaves in n bytes, from k0 on -/
def marks (k0 n : Nat) : List UInt8 := (List.range n).map (fun j => UInt8.ofNat (k0 + j))
theorem markTo_all (bs : List UInt8) (k0 : Nat) : markTo bs k0 bs.length = marks k0 bs.length := by simp [markTo, marks]
set_option maxHeartbeats 400000 in
theorem markByteS (g len cap k0 base : Nat) (bs : List UInt8) (w : World) (h : Own w base g len cap bs) (hk0 : k0 + len ≤ 1099511627776) :
    Calls Try.prog 23 #[.slice (some ⟨g, 0, none⟩) len cap, .int .i64 (k0 : Nat)] w fun e w' => e = .returned (.int .i64 ((k0 + len : Nat) : Int)) ∧ Own w' base g len cap (marks k0 len) ∧ w.grownBy w' (some g) := by
  obtain ⟨hl, _⟩ := id h
  subst hl
  go_enter Try.func23, Try.ntmps23
  go_wp2
  go_loopw [1, 5] (fun kv i wr => ∃ k : Nat, k ≤ bs.length ∧ i = .int .i64 k ∧ kv = .int .i64 ((k0 + k : Nat) : Int) ∧ Own wr base g bs.length cap (markTo bs k0 k) ∧ w.grownBy wr (some g)) (fun _ i _ => bs.length - (intOf i).toNat)
  case atStart => exact ⟨0, Nat.zero_le _, rfl, rfl, by rw [markTo_zero]; exact h, World.grownBy.refl _ _⟩
  case round =>
    obtain ⟨k, hk, rfl, rfl, hO, hG⟩ := hrel
    by_cases hlt : k < bs.length
    · have hlen := markTo_length bs k0 k hk
      have c2 : wr.cell? ⟨g, k, none⟩ = some (.int .u8 (markTo bs k0 k)[k]!.toNat) := by
        rw [hO.at k (by omega), getElem!_pos (markTo bs k0 k) k (by omega)]
      have c3 : wr.frozen? ⟨g, k, none⟩ = false := hO.frozen k
      have R := own_set hO k (UInt8.ofNat (k0 + k))
      rw [markTo_set bs k0 k hlt, byte_of] at R
      have HR := Hid.mk' R
      clear R hlen
      go_wp2
      go_roundw
      case rel => exact ⟨k + 1, by omega, by go_num, by go_num, by simpa using HR.out.1, grownBy_trans hG (by simpa using HR.out.2)⟩
      case measure => simp [intOf]; omega
    · go_wp2
      go_ret
      have e : k = bs.length := by omega
      subst e
      rw [markTo_all] at hO
      exact ⟨rfl, hO, hG⟩

set_option maxHeartbeats 400000 in
theorem heldByteS (a : Option Addr) (len cap k0 : Nat) (w : World) (h : Sl w a len (marks k0 len)) (hk0 : k0 + len ≤ 1099511627776) :
    Calls Try.prog 24 #[.slice a len cap, .int .i64 (k0 : Nat)] w fun e w' => e = .returned (.int .i64 ((k0 + len : Nat) : Int)) ∧ w' = w := by
  obtain ⟨hl, hm, hc⟩ := h
  go_enter Try.func24, Try.ntmps24
  go_wp2
  go_loop [1, 5] (fun kv i => ∃ k : Nat, k ≤ len ∧ i = .int .i64 k ∧ kv = .int .i64 ((k0 + k : Nat) : Int)) (fun _ i => len - (intOf i).toNat)
  case atStart => exact ⟨0, Nat.zero_le _, rfl, rfl⟩
  case round =>
    obtain ⟨k, hk, rfl, rfl⟩ := hrel
    by_cases hlt : k < len
    · obtain ⟨b, off, ha, hcl⟩ := hc (by omega)
      subst ha
      have c1 : w.cell? ⟨b, off + k, none⟩ = some (.int .u8 (((k0 + k : Nat) : Int) % 256)) := by
        rw [hcl k (by omega)]; simp only [marks, List.getElem_map, List.getElem_range, byte_of]
      clear hcl hc
      have hi1 : (k : Int) < (len : Int) := by omega
      go_wp2
      go_round
      case rel => exact ⟨k + 1, by omega, by go_num, by go_num⟩
      case measure => simp [intOf]; omega
    · go_wp2
      go_ret
      have e : k = len := by omega
      subst e
      exact ⟨rfl, rfl⟩

end Go.Proofs.Ytjodbijcgcjndaa.help
