/- Writing a list of texts: the program's and the specification's PutTexts answer as one and the same function. -/
import Derived.Test.YtdebbgodhpcijaaDoorKitB
import Derived.Test.YtdebbgodhpcijaaDoorHelpR
namespace Go.Proofs.YtdebbgodhpcijaaDoor.puttexts
open Go.RowKit Go.Proofs.YtdebbgodhpcijaaDoor.base Go.Proofs.YtdebbgodhpcijaaDoor.help Go.Proofs.YtdebbgodhpcijaaDoor.helps Go.Proofs.YtdebbgodhpcijaaDoor.putnum Go.Proofs.YtdebbgodhpcijaaDoor.puttext
set_option linter.unusedVariables false
set_option linter.unusedSimpArgs false

def listBytes (ss : List ByteArray) : List UInt8 := numBytes (ss.length : Int) ++ textsBytes ss
/-- how many letters -/
def sum (ss : List ByteArray) : Nat := (ss.map ByteArray.size).sum
theorem sum_snoc (ss : List ByteArray) (s : ByteArray) : sum (ss ++ [s]) = sum ss + s.size := by simp [sum]
theorem sum_take (ss : List ByteArray) (k : Nat) (h : k < ss.length) : sum (ss.take (k + 1)) = sum (ss.take k) + ss[k].size := by
  rw [List.take_succ_eq_append_getElem h, sum_snoc]
theorem sum_le (ss : List ByteArray) (k : Nat) : sum (ss.take k) ≤ sum ss := by
  have e : sum ss = sum (ss.take k) + sum (ss.drop k) := by
    unfold sum; rw [← List.sum_append, ← List.map_append, List.take_append_drop]
  omega
theorem size_le_sum (ss : List ByteArray) : ∀ s ∈ ss, s.size ≤ sum ss := by
  induction ss with
  | nil => intro s h; exact absurd h List.not_mem_nil
  | cons x l ih =>
    intro s h
    simp only [sum, List.map_cons, List.sum_cons] at *
    rcases List.mem_cons.1 h with h | h
    · subst h; omega
    · have := ih s h; omega
theorem textsBytes_sum (ss : List ByteArray) : (textsBytes ss).length ≤ sum ss + 5 * ss.length := by
  induction ss with
  | nil => simp [textsBytes]
  | cons x l ih =>
    have := textBytes_length x
    simp only [textsBytes, sum, List.map_cons, List.flatten_cons, List.sum_cons, List.length_append, List.length_cons] at *
    omega

def szR (L t : Nat) : Int := if t ≤ L then (L : Int) - (t : Int) else -1
theorem szR_neg {L t : Nat} (h : L < t) : szR L t = -1 := by unfold szR; rw [if_neg (by omega)]
theorem szR_pos {L t : Nat} (h : t ≤ L) : szR L t = (L : Int) - (t : Int) := by unfold szR; rw [if_pos h]

set_option maxRecDepth 100000 in
set_option maxHeartbeats 1000000 in
theorem szStringS (a : Option Addr) (len cap : Nat) (ss : List ByteArray) (L : Nat) (w : World) (h : SlS w a len ss) (hL : L ≤ 1099511627776) :
    Calls Tryd.prog 25 #[.slice a len cap, .int .i64 (L : Int)] w fun e w' => e = .returned (.int .i64 (szR L (ss.length + sum ss))) ∧ w' = w := by
  obtain ⟨hl, hm, hsm, hc⟩ := h
  subst hl
  unfold maxLen at hm hsm
  by_cases hneg : L < ss.length
  · rw [szR_neg (by omega)]
    have h1 : (L : Int) - (ss.length : Int) < 0 := by omega
    go_enter Tryd.func25, Tryd.ntmps25
    go_wp2
    go_ret
    exact ⟨rfl, rfl⟩
  · have h1 : ¬ (L : Int) - (ss.length : Int) < 0 := by omega
    go_enter Tryd.func25, Tryd.ntmps25
    go_wp2
    go_loop [1, 5] (fun lv i => ∃ k m : Nat, k ≤ ss.length ∧ i = .int .i64 (k : Int) ∧ lv = .int .i64 (m : Int) ∧ m + (ss.length + sum (ss.take k)) = L) (fun _ i => ss.length - (intOf i).toNat)
    case atStart => exact ⟨0, L - ss.length, Nat.zero_le _, rfl, by go_num, by simp [sum]; omega⟩
    case round =>
      obtain ⟨k, m, hk, rfl, rfl, hmL⟩ := hrel
      by_cases hlt : k < ss.length
      · obtain ⟨b, off, ha, hcl⟩ := hc (by omega)
        subst ha
        have hst := sum_take ss k hlt
        have hle := sum_le ss (k + 1)
        have hsz := hsm _ (List.getElem_mem hlt)
        generalize hsk : ss[k] = s at *
        have c1 : w.cell? ⟨b, off + k, none⟩ = some (.string s) := by rw [hcl k hlt, hsk]
        have hi1 : (k : Int) < (ss.length : Int) := by omega
        have hmB : m ≤ 1099511627776 := by omega
        have HML := Hid.mk' hmL
        have HST := Hid.mk' hst
        have HLE := Hid.mk' hle
        clear hcl hc hsm hsk hmL hst hle
        by_cases hover : m < s.size
        · have h2 : (m : Int) - (s.size : Int) < 0 := by omega
          go_wp2
          go_ret
          have e1 := HML.out
          have e2 := HST.out
          have e3 := HLE.out
          rw [szR_neg (by omega)]
          exact ⟨rfl, rfl⟩
        · have h2 : ¬ (m : Int) - (s.size : Int) < 0 := by omega
          go_wp2
          go_round
          case rel => exact ⟨k + 1, m - s.size, by omega, by go_num, by go_num, by have e1 := HML.out; have e2 := HST.out; omega⟩
          case measure => simp [intOf]; omega
      · have e : k = ss.length := by omega
        have HML := Hid.mk' hmL
        clear hmL
        go_wp2
        go_ret
        have e1 := HML.out
        rw [e, List.take_length] at e1
        rw [szR_pos (by omega)]
        exact ⟨ret_int (by omega), rfl⟩



end Go.Proofs.YtdebbgodhpcijaaDoor.puttexts
