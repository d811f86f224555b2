/- The laws' own helpers on slices of bytes: what each call does. Reading a number: the program's and the specification's GetNum answer as one and the same function. The specification's GetNum answers as the same function. -/
import Derived.Test.YtjodbijcgcjndaaRows
import Derived.Test.YtjodbijcgcjndaaBund10aa
import Derived.Test.YtjodbijcgcjndaaBund10ab
import Derived.Deep.QuietTactic
import Derived.BigQuiet
namespace Go.Proofs.Ytjodbijcgcjndaa.help
open Go.RowKit Go.Proofs.Ytjodbijcgcjndaa.base
set_option linter.unusedVariables false
set_option linter.unusedSimpArgs false

/-- copying: behind k rounds the first k cells are the argument's, the others nought -/
def copyTo (bs : List UInt8) (k : Nat) : List UInt8 := bs.take k ++ List.replicate (bs.length - k) 0
theorem copyTo_length (bs : List UInt8) (k : Nat) (h : k ≤ bs.length) : (copyTo bs k).length = bs.length := by simp [copyTo]; omega
theorem copyTo_zero (bs : List UInt8) : copyTo bs 0 = List.replicate bs.length 0 := by simp [copyTo]
theorem copyTo_all (bs : List UInt8) : copyTo bs bs.length = bs := by simp [copyTo]
theorem copyTo_set (bs : List UInt8) (k : Nat) (h : k < bs.length) : (copyTo bs k).set k bs[k] = copyTo bs (k + 1) := by
  apply List.ext_getElem?
  intro j
  simp only [copyTo, List.getElem?_set, List.getElem?_append, List.length_append, List.length_take, List.length_replicate, List.getElem?_take, List.getElem?_replicate]
  have e : min k bs.length = k := by omega
  have e1 : min (k + 1) bs.length = k + 1 := by omega
  rw [e, e1]
  by_cases hj : j = k
  · subst hj; simp [h]; omega
  · by_cases h1 : j < k
    · simp [h1, show ¬ k = j by omega, show j < k + 1 by omega]
    · simp [h1, show ¬ k = j by omega, show ¬ j < k + 1 by omega, show (j - k < bs.length - k ↔ j - (k + 1) < bs.length - (k + 1)) by omega]
set_option maxHeartbeats 400000 in
theorem toByteS (a : Option Addr) (len cap : Nat) (bs : List UInt8) (w : World) (h : Sl w a len bs) (hsz : len ≤ 1099511627776) :
    Calls Try.prog 25 #[.slice a len cap] w fun e w' => ∃ g, e = .returned (.slice (some ⟨g, 0, none⟩) len len) ∧ Own w' w.heap.size g len len bs ∧ Below w.heap.size w w' := by
  obtain ⟨hl, hm, hc⟩ := h
  subst hl
  have hm' := hm
  unfold maxLen at hm'
  go_enter Try.func25, Try.ntmps25
  obtain ⟨i0, hi, hz0, hz1, hz2⟩ := info_parts info8
  go_wp2_with (at_make; refine wpList_make_full _ rfl _ _ 22 rfl w.heap.size 5 i0 (.int .u8 0) 1 Try.underlying22 hi hz0 hz1 _ _ _ _ bs.length rfl rfl rfl rfl ?b2 ?b3 ?b4 ?_)
  case b2 => rw [hz2]; omega
  case b3 => exact hm
  case b4 => exact Nat.le_refl _
  intro w1 hown hgrow
  have hOwn : Own w1 w.heap.size w.heap.size bs.length bs.length (copyTo bs 0) := by
    refine ⟨copyTo_length bs 0 (Nat.zero_le _), ?_⟩
    rw [copyTo_zero]
    have e : byteVals (List.replicate bs.length 0) = (madeCells #[.int .u8 0] bs.length).toList := by
      simp [byteVals, toList_madeCells_one]
    rw [e]; exact hown
  have hbel : Below w.heap.size w w1 := (Below.refl _ _).grown hgrow (Nat.le_refl _) (fun k e => by cases e)
  clear hown hgrow hi hz0 hz1 hz2
  go_wp2
  go_loopw [4] (fun i wr => ∃ k : Nat, k ≤ bs.length ∧ i = .int .i64 k ∧ Own wr w.heap.size w.heap.size bs.length bs.length (copyTo bs k) ∧ Below w.heap.size w wr) (fun i _ => bs.length - (intOf i).toNat)
  case atStart => exact ⟨0, Nat.zero_le _, rfl, hOwn, hbel⟩
  case round =>
    clear hOwn hbel
    obtain ⟨k, hk, rfl, hO, hB⟩ := hrel
    by_cases hlt : k < bs.length
    · obtain ⟨b, off, ha, hcl⟩ := hc (by omega)
      subst ha
      have hbb : b < w.heap.size := World.block_lt_of_cell? w _ (hcl k hlt)
      have c1 : wr.cell? ⟨b, off + k, none⟩ = some (.int .u8 bs[k].toNat) := (hB.cell (p := ⟨b, off + k, none⟩) hbb).trans (hcl k hlt)
      have c2 : wr.cell? ⟨w.heap.size, k, none⟩ = some (.int .u8 (copyTo bs k)[k]!.toNat) := by
        have hx := hO.at k (by rw [copyTo_length bs k hk]; exact hlt)
        rw [hx, getElem!_pos (copyTo bs k) k (by rw [copyTo_length bs k hk]; exact hlt)]
      have c3 : wr.frozen? ⟨w.heap.size, k, none⟩ = false := hO.frozen k
      have R := own_set hO k bs[k]
      rw [copyTo_set bs k hlt] at R
      have HR := Hid.mk' R
      clear R hcl hc
      go_wp2
      go_roundw
      case rel => exact ⟨k + 1, by omega, by go_num, HR.out.1, hB.trans (below_grown HR.out.2 (Nat.le_refl _) hB.size)⟩
      case measure => simp [intOf]; omega
    · go_wp2
      go_ret
      have e : k = bs.length := by omega
      subst e
      rw [copyTo_all] at hO
      exact ⟨_, rfl, hO, hB⟩

theorem take_eq {bs bs2 : List UInt8} {k : Nat} (h : bs.take k = bs2.take k) (h1 : k < bs.length) (h2 : k < bs2.length) (e : bs[k] = bs2[k]) : bs.take (k + 1) = bs2.take (k + 1) := by
  rw [List.take_succ_eq_append_getElem h1, List.take_succ_eq_append_getElem h2, h, e]

set_option maxHeartbeats 400000 in
theorem eqByteS (a a2 : Option Addr) (len cap len2 cap2 : Nat) (bs bs2 : List UInt8) (w : World) (h : Sl w a len bs) (h2 : Sl w a2 len2 bs2) :
    Calls Try.prog 21 #[.slice a len cap, .slice a2 len2 cap2] w fun e w' => e = .returned (.bool (decide (bs = bs2))) ∧ ∃ n, w' = w.drewN n := by
  obtain ⟨hl, hm, hc⟩ := h
  obtain ⟨hl2, hm2, hc2⟩ := h2
  subst hl hl2
  unfold maxLen at hm hm2
  by_cases hne : bs.length = bs2.length
  · have hb : ((bs.length : Int) == (bs2.length : Int)) = true := by simp; omega
    go_enter Try.func21, Try.ntmps21
    go_wp2
    go_loopw [5] (fun i wr => ∃ k : Nat, k ≤ bs.length ∧ i = .int .i64 k ∧ bs.take k = bs2.take k ∧ ∃ n, wr = w.drewN n) (fun i _ => bs.length - (intOf i).toNat)
    case atStart => exact ⟨0, Nat.zero_le _, rfl, rfl, 0, rfl⟩
    case round =>
      obtain ⟨k, hk, rfl, htk, n, rfl⟩ := hrel
      by_cases hlt : k < bs.length
      · obtain ⟨b, off, ha, hcl⟩ := hc (by omega)
        obtain ⟨b2, off2, ha2, hcl2⟩ := hc2 (by omega)
        subst ha ha2
        have hlt2 : k < bs2.length := by omega
        have hi1 : (k : Int) < (bs.length : Int) := by omega
        have hi2 : (k : Int) < (bs2.length : Int) := by omega
        have c1 : w.cell? ⟨b, off + k, none⟩ = some (.int .u8 bs[k].toNat) := hcl k hlt
        have c2 : w.cell? ⟨b2, off2 + k, none⟩ = some (.int .u8 bs2[k].toNat) := hcl2 k hlt2
        have HT := Hid.mk' htk
        clear hcl hcl2 hc hc2 htk hne
        by_cases e : bs[k] = bs2[k]
        · have hq : ((bs[k].toNat : Int) == (bs2[k].toNat : Int)) = true := by rw [e]; simp
          go_wp2
          go_quiet (fail)
          go_wp2
          go_roundw
          case rel => exact ⟨k + 1, by omega, by go_num, take_eq HT.out hlt hlt2 e, _, rfl⟩
          case measure => simp [intOf]; omega
        · have hq : ((bs[k].toNat : Int) == (bs2[k].toNat : Int)) = false := by
            simp only [beq_eq_false_iff_ne]; intro h; exact e (UInt8.toNat_inj.1 (by omega))
          go_wp2
          go_quiet (fail)
          go_wp2
          go_ret
          exact ⟨ret_bool (by symm; rw [decide_eq_false_iff_not]; intro h; subst h; exact e rfl), _, World.drewN_drewN _ _ _⟩
      · have e : k = bs.length := by omega
        have hfin : bs = bs2 := by
          subst e
          rw [List.take_of_length_le (Nat.le_refl _), List.take_of_length_le (by omega)] at htk
          exact htk
        have HF := Hid.mk' hfin
        clear hfin htk
        go_wp2
        go_ret
        exact ⟨ret_bool (by symm; rw [decide_eq_true_iff]; exact HF.out), _, rfl⟩
  · have hb : ((bs.length : Int) == (bs2.length : Int)) = false := by simp; omega
    go_enter Try.func21, Try.ntmps21
    go_wp2
    go_ret
    exact ⟨ret_bool (by symm; rw [decide_eq_false_iff_not]; intro h; exact hne (by rw [h])), 0, rfl⟩

/-- k, k+1, .. as bytes over the first places -/
def markTo (bs : List UInt8) (k0 : Nat) (i : Nat) : List UInt8 := (List.range i).map (fun j => UInt8.ofNat (k0 + j)) ++ bs.drop i
theorem markTo_length (bs : List UInt8) (k0 i : Nat) (h : i ≤ bs.length) : (markTo bs k0 i).length = bs.length := by simp [markTo]; omega
theorem markTo_zero (bs : List UInt8) (k0 : Nat) : markTo bs k0 0 = bs := by simp [markTo]
theorem markTo_set (bs : List UInt8) (k0 i : Nat) (h : i < bs.length) : (markTo bs k0 i).set i (UInt8.ofNat (k0 + i)) = markTo bs k0 (i + 1) := by
  unfold markTo
  rw [List.set_append_right _ _ (by simp)]
  simp only [List.length_map, List.length_range, Nat.sub_self, List.range_succ, List.map_append, List.map_cons, List.map_nil, List.append_assoc]
  congr 1
  rw [List.drop_eq_getElem_cons h]
  rfl
/-- what markByteS leaves in n bytes, from k0 on -/
def marks (k0 n : Nat) : List UInt8 := (List.range n).map (fun j => UInt8.ofNat (k0 + j))
theorem markTo_all (bs : List UInt8) (k0 : Nat) : markTo bs k0 bs.length = marks k0 bs.length := by simp [markTo, marks]
set_option maxHeartbeats 400000 in
theorem markByteS (g len cap k0 base : Nat) (bs : List UInt8) (w : World) (h : Own w base g len cap bs) (hk0 : k0 + len ≤ 1099511627776) :
    Calls Try.prog 23 #[.slice (some ⟨g, 0, none⟩) len cap, .int .i64 (k0 : Nat)] w fun e w' => e = .returned (.int .i64 ((k0 + len : Nat) : Int)) ∧ Own w' base g len cap (marks k0 len) ∧ w.grownBy w' (some g) := by
  obtain ⟨hl, _⟩ := id h
  subst hl
  go_enter Try.func23, Try.ntmps23
  go_wp2
  go_loopw [1, 5] (fun kv i wr => ∃ k : Nat, k ≤ bs.length ∧ i = .int .i64 k ∧ kv = .int .i64 ((k0 + k : Nat) : Int) ∧ Own wr base g bs.length cap (markTo bs k0 k) ∧ w.grownBy wr (some g)) (fun _ i _ => bs.length - (intOf i).toNat)
  case atStart => exact ⟨0, Nat.zero_le _, rfl, rfl, by rw [markTo_zero]; exact h, World.grownBy.refl _ _⟩
  case round =>
    obtain ⟨k, hk, rfl, rfl, hO, hG⟩ := hrel
    by_cases hlt : k < bs.length
    · have hlen := markTo_length bs k0 k hk
      have c2 : wr.cell? ⟨g, k, none⟩ = some (.int .u8 (markTo bs k0 k)[k]!.toNat) := by
        rw [hO.at k (by omega), getElem!_pos (markTo bs k0 k) k (by omega)]
      have c3 : wr.frozen? ⟨g, k, none⟩ = false := hO.frozen k
      have R := own_set hO k (UInt8.ofNat (k0 + k))
      rw [markTo_set bs k0 k hlt, byte_of] at R
      have HR := Hid.mk' R
      clear R hlen
      go_wp2
      go_roundw
      case rel => exact ⟨k + 1, by omega, by go_num, by go_num, by simpa using HR.out.1, grownBy_trans hG (by simpa using HR.out.2)⟩
      case measure => simp [intOf]; omega
    · go_wp2
      go_ret
      have e : k = bs.length := by omega
      subst e
      rw [markTo_all] at hO
      exact ⟨rfl, hO, hG⟩

set_option maxHeartbeats 400000 in
theorem heldByteS (a : Option Addr) (len cap k0 : Nat) (w : World) (h : Sl w a len (marks k0 len)) (hk0 : k0 + len ≤ 1099511627776) :
    Calls Try.prog 24 #[.slice a len cap, .int .i64 (k0 : Nat)] w fun e w' => e = .returned (.int .i64 ((k0 + len : Nat) : Int)) ∧ w' = w := by
  obtain ⟨hl, hm, hc⟩ := h
  go_enter Try.func24, Try.ntmps24
  go_wp2
  go_loop [1, 5] (fun kv i => ∃ k : Nat, k ≤ len ∧ i = .int .i64 k ∧ kv = .int .i64 ((k0 + k : Nat) : Int)) (fun _ i => len - (intOf i).toNat)
  case atStart => exact ⟨0, Nat.zero_le _, rfl, rfl⟩
  case round =>
    obtain ⟨k, hk, rfl, rfl⟩ := hrel
    by_cases hlt : k < len
    · obtain ⟨b, off, ha, hcl⟩ := hc (by omega)
      subst ha
      have c1 : w.cell? ⟨b, off + k, none⟩ = some (.int .u8 (((k0 + k : Nat) : Int) % 256)) := by
        rw [hcl k (by omega)]; simp only [marks, List.getElem_map, List.getElem_range, byte_of]
      clear hcl hc
      have hi1 : (k : Int) < (len : Int) := by omega
      go_wp2
      go_round
      case rel => exact ⟨k + 1, by omega, by go_num, by go_num⟩
      case measure => simp [intOf]; omega
    · go_wp2
      go_ret
      have e : k = len := by omega
      subst e
      exact ⟨rfl, rfl⟩

end Go.Proofs.Ytjodbijcgcjndaa.help

namespace Go.Proofs.Ytjodbijcgcjndaa.getnum
open Go.RowKit Go.Proofs.Ytjodbijcgcjndaa.base Go.Proofs.Ytjodbijcgcjndaa.help
set_option linter.unusedVariables false
set_option linter.unusedSimpArgs false

/-- k groups are read, n of them so far -/
def getGo : List UInt8 → Nat → Nat → Option (Nat × Nat)
  | [], _, _ => none
  | c :: l, k, n =>
    if 5 ≤ k then none
    else if 128 ≤ c.toNat then getGo l (k + 1) (n + c.toNat % 128 * 128 ^ k)
    else if 1000000000 < n + c.toNat % 128 * 128 ^ k ∨ (c.toNat = 0 ∧ 0 < k) then none
    else some (n + c.toNat % 128 * 128 ^ k, k + 1)
def getNum (bs : List UInt8) (at_ : Int) : Option (Nat × Nat) := if at_ < 0 then none else getGo (bs.drop at_.toNat) 0 0
def numRet (at_ : Int) : Option (Nat × Nat) → Value
  | none => .tuple #[.int .i64 0, .int .i64 0, .bool false]
  | some (n, k) => .tuple #[.int .i64 (n : Nat), .int .i64 (at_ + (k : Nat)), .bool true]

theorem tup3 {a b c d : Int} {t : Bool} (h : a = b) (h2 : c = d) : Ending.returned (.tuple #[.int .i64 a, .int .i64 c, .bool t]) = .returned (.tuple #[.int .i64 b, .int .i64 d, .bool t]) := by rw [h, h2]

theorem getGo_step (bs : List UInt8) (p k n : Nat) (h : p < bs.length) (hk : k < 5) : getGo (bs.drop p) k n =
    if 128 ≤ bs[p].toNat then getGo (bs.drop (p + 1)) (k + 1) (n + bs[p].toNat % 128 * 128 ^ k)
    else if 1000000000 < n + bs[p].toNat % 128 * 128 ^ k ∨ (bs[p].toNat = 0 ∧ 0 < k) then none
    else some (n + bs[p].toNat % 128 * 128 ^ k, k + 1) := by
  rw [List.drop_eq_getElem_cons h, getGo, if_neg (by omega)]
theorem getGo_end (bs : List UInt8) (p k n : Nat) (h : bs.length ≤ p) : getGo (bs.drop p) k n = none := by
  rw [List.drop_eq_nil_of_le h, getGo]
theorem getGo_five (l : List UInt8) (k n : Nat) (h : 5 ≤ k) : getGo l k n = none := by
  cases l with
  | nil => rw [getGo]
  | cons c l => rw [getGo, if_pos h]

set_option maxRecDepth 100000 in
set_option maxHeartbeats 1000000 in
theorem impl_get (a : Option Addr) (len cap : Nat) (at_ : Int) (bs : List UInt8) (w : World) (h : Sl w a len bs) (hat : (Lit.int .i64 at_).wf = true) :
    Calls Try.prog 58 #[.slice a len cap, .int .i64 at_] w fun e w' => e = .returned (numRet at_ (getNum bs at_)) ∧ w' = w := by
  obtain ⟨hl, hm, hc⟩ := h
  unfold maxLen at hm
  subst hl
  have hb : -9223372036854775808 ≤ at_ ∧ at_ ≤ 9223372036854775807 := by simpa [Lit.wf, IntKind.min, IntKind.max, IntKind.signed, IntKind.bits] using hat
  by_cases hneg : at_ < 0
  · have hres : getNum bs at_ = none := by simp [getNum, hneg]
    rw [hres]
    go_enter Try.func58, Try.ntmps58
    go_wp2
    go_ret3
    exact ⟨rfl, rfl⟩
  · obtain ⟨A, rfl⟩ := Int.eq_ofNat_of_zero_le (by omega : 0 ≤ at_)
    have hres : getNum bs (A : Int) = getGo (bs.drop A) 0 0 := by unfold getNum; rw [if_neg hneg, Int.toNat_natCast]
    rw [hres]
    clear hres hat hneg
    generalize hR : getGo (bs.drop A) 0 0 = R
    have HR := Hid.mk' hR
    clear hR
    go_enter Try.func58, Try.ntmps58
    go_wp2
    go_loop [7, 8, 9] (fun n s i => ∃ k m : Nat, k ≤ 5 ∧ (k = 0 ∨ A + k ≤ bs.length) ∧ m < 128 ^ k ∧ n = .int .i64 m ∧ s = .int .i64 ((128 ^ k : Nat) : Int) ∧ i = .int .i64 ((A + k : Nat) : Int) ∧ getGo (bs.drop (A + k)) k m = R) (fun _ _ i => A + 5 - (intOf i).toNat)
    case atStart => exact ⟨0, 0, by omega, .inl rfl, by omega, rfl, rfl, rfl, HR.out⟩
    case round =>
      obtain ⟨k, m, hk, hAk, hmk, rfl, rfl, rfl, hgo⟩ := hrel
      have HG := Hid.mk' hgo
      clear hgo HR
      by_cases hk5 : k < 5
      · by_cases hlt : A + k < bs.length
        · obtain ⟨b, off, ha, hcl⟩ := hc (by omega)
          subst ha
          generalize hcc : bs[A + k].toNat = c
          have hc256 : c < 256 := by rw [← hcc]; exact UInt8.toNat_lt _
          have c1 : w.cell? ⟨b, off + (A + k), none⟩ = some (.int .u8 (c : Int)) := by rw [hcl (A + k) hlt, hcc]
          have HS := Hid.mk' (HG.out.symm.trans (getGo_step bs (A + k) k m hlt hk5))
          rw [hcc] at HS
          clear hcl hc hcc
          have h1 : 128 ^ k ≤ 268435456 := Nat.le_trans (Nat.pow_le_pow_right (n := 128) (by omega) (show k ≤ 4 by omega)) (by decide)
          have h2 : c % 128 * 128 ^ k ≤ 127 * 268435456 := Nat.mul_le_mul (by omega) h1
          have h3 : ((c % 128 * 128 ^ k : Nat) : Int) = (c : Int) % 128 * ((128 ^ k : Nat) : Int) := by rw [Int.natCast_mul, Int.natCast_emod]; rfl
          generalize hsd : 128 ^ k = sc at *
          have hpi : 0 ≤ (c : Int) % 128 * (sc : Int) ∧ (c : Int) % 128 * (sc : Int) ≤ 34091302912 := by omega
          have HP := Hid.mk' hsd
          clear hsd h2 h3
          have HE : Hid (∀ (x : Nat), x = m + c % 128 * sc → (x : Int) = (m : Int) + (c : Int) % 128 * (sc : Int)) := by
            intro x hx; rw [hx, Int.natCast_add, Int.natCast_mul, Int.natCast_emod]; rfl
          by_cases hge : 128 ≤ c
          · have HN : Hid (getGo (bs.drop (A + (k + 1))) (k + 1) (m + c % 128 * sc) = R) := by
              have := HS.out; rw [if_pos hge] at this; exact this.symm
            go_wp2
            go_round
            case rel =>
              refine ⟨k + 1, m + c % 128 * sc, by omega, .inr (by omega), ?_, val_int (HE.out _ rfl).symm, val_int ?_, by go_num, HN.out⟩
              · have h5 : c % 128 * sc ≤ 127 * sc := Nat.mul_le_mul_right _ (by omega)
                rw [Nat.pow_succ, HP.out]; omega
              · rw [Nat.pow_succ, HP.out]; omega
            case measure => simp [intOf]; omega
          · have hS2 := HS.out
            rw [if_neg hge] at hS2
            generalize hx : m + c % 128 * sc = x at *
            have hxe := HE.out x rfl
            by_cases hbig : 1000000000 < x
            · have HF : Hid (R = none) := by rw [if_pos (.inl hbig)] at hS2; exact hS2
              have hbig' : 1000000000 < (m : Int) + (c : Int) % 128 * (sc : Int) := by omega
              clear hxe hS2 HS HE hx
              go_wp2
              go_ret3
              exact ⟨by rw [HF.out]; rfl, rfl⟩
            · have hbig' : ¬ 1000000000 < (m : Int) + (c : Int) % 128 * (sc : Int) := by omega
              by_cases hc0 : c = 0
              · have hz : ((c : Int) % 128 == 0) = true := by rw [hc0]; rfl
                by_cases hk0 : 0 < k
                · have HF : Hid (R = none) := by rw [if_pos (.inr ⟨hc0, hk0⟩)] at hS2; exact hS2
                  clear hxe hS2 HS HE hx hc0
                  go_wp2
                  go_ret3
                  exact ⟨by rw [HF.out]; rfl, rfl⟩
                · have HF : Hid (R = some (x, k + 1)) := by rw [if_neg (by omega)] at hS2; exact hS2
                  have HX := Hid.mk' hxe
                  clear hxe hS2 HS HE hx hc0
                  go_wp2
                  go_ret3
                  exact ⟨by rw [HF.out]; simp only [numRet]; rw [HX.out]; exact tup3 rfl (by omega), rfl⟩
              · have hz : ((c : Int) % 128 == 0) = false := by rw [beq_eq_false_iff_ne]; omega
                have HF : Hid (R = some (x, k + 1)) := by rw [if_neg (by omega)] at hS2; exact hS2
                have HX := Hid.mk' hxe
                clear hxe hS2 HS HE hx hc0
                go_wp2
                go_ret3
                exact ⟨by rw [HF.out]; simp only [numRet]; rw [HX.out]; exact tup3 rfl (by omega), rfl⟩
        · have HF : Hid (R = none) := by rw [← HG.out]; exact getGo_end _ _ _ _ (by omega)
          go_wp2
          go_ret3
          exact ⟨by rw [HF.out]; rfl, rfl⟩
      · have HF : Hid (R = none) := by rw [← HG.out]; exact getGo_five _ _ _ (by omega)
        by_cases hlt : A + k < bs.length
        · go_wp2
          go_ret3
          exact ⟨by rw [HF.out]; rfl, rfl⟩
        · go_wp2
          go_ret3
          exact ⟨by rw [HF.out]; rfl, rfl⟩
end Go.Proofs.Ytjodbijcgcjndaa.getnum

namespace Go.Proofs.Ytjodbijcgcjndaa.getnum
open Go.RowKit Go.Proofs.Ytjodbijcgcjndaa.base Go.Proofs.Ytjodbijcgcjndaa.help
set_option linter.unusedVariables false
set_option linter.unusedSimpArgs false

theorem pow_seven (k : Nat) : 2 ^ (7 * k) = 128 ^ k := by rw [Nat.pow_mul]
theorem or_step (m c k : Nat) (hm : m < 128 ^ k) (hc : c < 256) (hk : k < 5) :
    bits .or .i64 (m : Int) (wrap64 (bits .and .i64 (c : Int) 127 * 2 ^ (7 * k))) = ((m + c % 128 * 128 ^ k : Nat) : Int) := by
  have h1 : 128 ^ k ≤ 268435456 := Nat.le_trans (Nat.pow_le_pow_right (n := 128) (by omega) (show k ≤ 4 by omega)) (by decide)
  have h2 : c % 128 * 128 ^ k ≤ 127 * 268435456 := Nat.mul_le_mul (by omega) h1
  have hand : bits .and .i64 (c : Int) 127 = ((c % 128 : Nat) : Int) := by
    rw [show (127 : Int) = 2 ^ 7 - 1 from rfl, bits_mask .i64 63 (by decide) wraps_i64 7 (by decide) (c : Int) (by omega) (by omega)]
    omega
  have hpw : ((c % 128 : Nat) : Int) * 2 ^ (7 * k) = ((c % 128 * 128 ^ k : Nat) : Int) := by
    rw [← pow_seven k, Int.natCast_mul, Int.natCast_pow]; rfl
  rw [hand, hpw, IntWalk.wrap64_in _ (by omega), (bits_nat .i64 63 (by decide) wraps_i64 m (c % 128 * 128 ^ k) (by omega) (by omega)).2, Nat.or_comm,
    nat_join (7 * k) _ m (by rw [pow_seven]; exact Nat.mul_mod_left _ _) (by rw [pow_seven]; exact hm), Nat.add_comm]

set_option maxRecDepth 100000 in
set_option maxHeartbeats 1000000 in
theorem spec_get (a : Option Addr) (len cap : Nat) (at_ : Int) (bs : List UInt8) (w : World) (h : Sl w a len bs) (hat : (Lit.int .i64 at_).wf = true) :
    Calls Try.prog 37 #[.slice a len cap, .int .i64 at_] w fun e w' => e = .returned (numRet at_ (getNum bs at_)) ∧ w' = w := by
  obtain ⟨hl, hm, hc⟩ := h
  unfold maxLen at hm
  subst hl
  have hb : -9223372036854775808 ≤ at_ ∧ at_ ≤ 9223372036854775807 := by simpa [Lit.wf, IntKind.min, IntKind.max, IntKind.signed, IntKind.bits] using hat
  by_cases hneg : at_ < 0
  · have hres : getNum bs at_ = none := by simp [getNum, hneg]
    rw [hres]
    have hn2 : ¬ 0 ≤ at_ := by omega
    go_enter Try.func37, Try.ntmps37
    go_wp2
    refine wp_loop_rounds 1 ?_
    rw [rounds_succ]
    go_wp2
    go_ret3
    exact ⟨rfl, rfl⟩
  · obtain ⟨A, rfl⟩ := Int.eq_ofNat_of_zero_le (by omega : 0 ≤ at_)
    have hres : getNum bs (A : Int) = getGo (bs.drop A) 0 0 := by unfold getNum; rw [if_neg hneg, Int.toNat_natCast]
    rw [hres]
    clear hres hat hneg
    generalize hR : getGo (bs.drop A) 0 0 = R
    have HR := Hid.mk' hR
    clear hR
    go_enter Try.func37, Try.ntmps37
    go_wp2
    go_loop [7, 8] (fun n i => ∃ k m : Nat, k ≤ 5 ∧ (k = 0 ∨ A + k ≤ bs.length) ∧ m < 128 ^ k ∧ n = .int .i64 m ∧ i = .int .i64 (k : Int) ∧ getGo (bs.drop (A + k)) k m = R) (fun _ i => 5 - (intOf i).toNat)
    case atStart => exact ⟨0, 0, by omega, .inl rfl, by omega, rfl, rfl, HR.out⟩
    case round =>
      obtain ⟨k, m, hk, hAk, hmk, rfl, rfl, hgo⟩ := hrel
      have HG := Hid.mk' hgo
      clear hgo HR
      by_cases hk5 : k < 5
      · by_cases hlt : A + k < bs.length
        · obtain ⟨b, off, ha, hcl⟩ := hc (by omega)
          subst ha
          generalize hcc : bs[A + k].toNat = c
          have hc256 : c < 256 := by rw [← hcc]; exact UInt8.toNat_lt _
          have c1 : w.cell? ⟨b, off + (A + k), none⟩ = some (.int .u8 (c : Int)) := by rw [hcl (A + k) hlt, hcc]
          have HS := Hid.mk' (HG.out.symm.trans (getGo_step bs (A + k) k m hlt hk5))
          rw [hcc] at HS
          clear hcl hc hcc
          have hv := or_step m c k hmk hc256 hk5
          generalize hx : m + c % 128 * 128 ^ k = x at *
          have hxm : x < 128 ^ (k + 1) := by
            have h5 : c % 128 * 128 ^ k ≤ 127 * 128 ^ k := Nat.mul_le_mul_right _ (by omega)
            rw [Nat.pow_succ]; omega
          have HX := Hid.mk' hxm
          clear hx hmk hxm
          have hi1 : (A : Int) + k < (bs.length : Int) := by omega
          by_cases hge : 128 ≤ c
          · have HN : Hid (getGo (bs.drop (A + (k + 1))) (k + 1) x = R) := by
              have := HS.out; rw [if_pos hge] at this; exact this.symm
            go_wp2
            go_round
            case rel => exact ⟨k + 1, x, by omega, .inr (by omega), HX.out, rfl, by go_num, HN.out⟩
            case measure => simp [intOf]; omega
          · have hS2 := HS.out
            rw [if_neg hge] at hS2
            by_cases hbig : 1000000000 < x
            · have HF : Hid (R = none) := by rw [if_pos (.inl hbig)] at hS2; exact hS2
              have hbig' : 1000000000 < (x : Int) := by omega
              clear hS2 HS
              by_cases hk0 : 0 < k
              · by_cases hc0 : c = 0
                · have hz : ((c : Int) == 0) = true := by rw [hc0]; rfl
                  clear hc0
                  go_wp2
                  go_ret3
                  exact ⟨by rw [HF.out]; rfl, rfl⟩
                · have hz : ((c : Int) == 0) = false := by rw [beq_eq_false_iff_ne]; omega
                  clear hc0
                  go_wp2
                  go_ret3
                  exact ⟨by rw [HF.out]; rfl, rfl⟩
              · go_wp2
                go_ret3
                exact ⟨by rw [HF.out]; rfl, rfl⟩
            · have hbig' : ¬ 1000000000 < (x : Int) := by omega
              by_cases hk0 : 0 < k
              · by_cases hc0 : c = 0
                · have HF : Hid (R = none) := by rw [if_pos (.inr ⟨hc0, hk0⟩)] at hS2; exact hS2
                  have hz : ((c : Int) == 0) = true := by rw [hc0]; rfl
                  clear hS2 HS hc0
                  go_wp2
                  go_ret3
                  exact ⟨by rw [HF.out]; rfl, rfl⟩
                · have HF : Hid (R = some (x, k + 1)) := by rw [if_neg (by omega)] at hS2; exact hS2
                  have hz : ((c : Int) == 0) = false := by rw [beq_eq_false_iff_ne]; omega
                  clear hS2 HS hc0
                  go_wp2
                  go_ret3
                  exact ⟨by rw [HF.out]; simp only [numRet]; exact tup3 rfl (by omega), rfl⟩
              · have HF : Hid (R = some (x, k + 1)) := by rw [if_neg (by omega)] at hS2; exact hS2
                clear hS2 HS
                go_wp2
                go_ret3
                exact ⟨by rw [HF.out]; simp only [numRet]; exact tup3 rfl (by omega), rfl⟩
        · have HF : Hid (R = none) := by rw [← HG.out]; exact getGo_end _ _ _ _ (by omega)
          by_cases hA : A < bs.length
          · go_wp2
            go_ret3
            exact ⟨by rw [HF.out]; rfl, rfl⟩
          · go_wp2
            go_ret3
            exact ⟨by rw [HF.out]; rfl, rfl⟩
      · have HF : Hid (R = none) := by rw [← HG.out]; exact getGo_five _ _ _ (by omega)
        go_wp2
        go_ret3
        exact ⟨by rw [HF.out]; rfl, rfl⟩
end Go.Proofs.Ytjodbijcgcjndaa.getnum
