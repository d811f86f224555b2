/- What the law on right pairs draws. -/
import Derived.Test.YtblgkcgmnmligaaDrawQ
namespace Go.Proofs.Ytblgkcgmnmligaa.pairs
open Go Go.RowKit Go.Proofs.Ytblgkcgmnmligaa.base Go.Proofs.Ytblgkcgmnmligaa.draw
set_option linter.unusedVariables false
set_option linter.unusedSimpArgs false

theorem conv_two (w : World) (x y : Int) (u v : UInt8) (hx : x = (u.toNat : Int)) (hy : y = (v.toNat : Int)) (c : Nat) :
    (convert 22 9 (.slice (some ⟨w.heap.size, 0, none⟩) 2 c)).run Try.prog (w.alloc (.cells #[.int .u8 x, .int .u8 y] 5)) = .ok (.string ⟨#[u, v]⟩) (w.alloc (.cells #[.int .u8 x, .int .u8 y] 5)) := by
  rw [run_convert_bytes_arg (P := Try.prog) _ 22 5 Try.underlying22 Try.underlying5 w.heap.size 0 2 c [x, y] rfl ?_ 9 Try.underlying9]
  · subst hx; subst hy; simp [strOfNums]
  · intro i hi
    have : i = 0 ∨ i = 1 := by omega
    rcases this with rfl | rfl <;> simp

def GotOne (w : World) (e : Ending) (w' : World) : Prop :=
  ∃ (g n cp : Nat) (l : List Pr), n ≤ 61 ∧ (∀ p ∈ l, tiny p) ∧ e = .returned (.slice (some ⟨g, 0, none⟩) n cp) ∧ OwnP w' w.heap.size g n cp l ∧ Below w.heap.size w w'
set_option maxRecDepth 100000 in
set_option maxHeartbeats 2000000 in
theorem drawPairsOk (a : Option Addr) (len cap : Nat) (code : List UInt8) (w : World) (h : Sl w a len code) (hln : len ≤ 1099511627776) :
    Calls Try.prog 25 #[.slice a len cap] w fun e w' => GotOne w e w' := by
  obtain ⟨i0, hif, hz0, hz1, hz2⟩ := info_parts infoP
  go_enter Try.func25, Try.ntmps25
  go_wp2_with fail
  refine (new_ w w a len cap code h (Below.refl _ _) hln).mono ?_
  rintro e w1 ⟨rfl, hC1, hB1⟩
  go_wp2_with fail
  refine (d_once w _ _ a len cap code _ hC1 (by omega) (by omega)).mono ?_
  rintro e w2 ⟨b, rfl, hC2, hG2⟩
  have hbw2 : w.heap.size ≤ w2.heap.size := hC2.bel.size
  cases b
  · go_wp2_with fail
    refine (d_any w _ _ a len cap code hC2).mono ?_
    rintro e w3 ⟨g, n, cp, l, hn, ht, rfl, hO3, hC3, hG3⟩
    go_wp2_with fail
    go_ret
    exact ⟨g, n, cp, l, by omega, ht, rfl, hO3.mono hbw2, hC3.bel⟩
  · have hltc := hC2.lt
    have hC2a : Cur w (w2.alloc (.cells #[] 33)) w.heap.size a len cap code := hC2.below ((Below.refl _ _).alloc (Nat.le_refl _) _)
    have hO2a := ownP_made w2 (w.heap.size + 1) (by omega)
    clear hC1 hB1 hG2
    go_wp2_with (at_builtin; fail)
    go_loopw [4, 5] (fun v i wr => ∃ (k g cp : Nat) (l : List Pr), k ≤ 61 ∧ i = .int .i64 (k : Int) ∧ v = .slice (some ⟨g, 0, none⟩) k cp ∧ (∀ p ∈ l, tiny p) ∧ OwnP wr (w.heap.size + 1) g k cp l ∧ Cur w wr w.heap.size a len cap code) (fun _ i _ => 61 - (intOf i).toNat)
    case atStart => exact ⟨0, w2.heap.size, 0, [], by omega, rfl, rfl, (fun p hp => absurd hp List.not_mem_nil), hO2a, hC2a⟩
    case round =>
      clear hO2a hC2a hC2
      obtain ⟨k, g, cp, l, hk, rfl, rfl, ht, hO, hC⟩ := hrel
      go_wp2_with (at_builtin; fail)
      refine (below_ w _ _ a len cap code _ hC (by omega) (by omega)).mono ?_
      rintro e w3 ⟨x, hx, rfl, hC3, hG3⟩
      have hgne : g ≠ w.heap.size := by have := hO.lt; omega
      have hO3 := hO.grown hG3 (by simpa using hgne)
      have hbw3 : w.heap.size + 1 ≤ w3.heap.size := by have := hC3.lt; omega
      clear hO hC hG3
      by_cases hlt : (k : Int) < 60 + (x : Int)
      · have hcv := fun c => conv_two w3 (97 + (k : Int) / 10) (48 + (k : Int) % 10) (UInt8.ofNat (97 + k / 10)) (UInt8.ofNat (48 + k % 10)) (by rw [byte_of]; omega) (by rw [byte_of]; omega) c
        generalize hK : (⟨#[UInt8.ofNat (97 + k / 10), UInt8.ofNat (48 + k % 10)]⟩ : ByteArray) = key at *
        have hks : key.size = 2 := by rw [← hK]; rfl
        have HKS := Hid.mk' hks
        have hc3 : k + 1 ≤ maxLen := by unfold maxLen; omega
        have hc4 : (k + 1) * 32 ≤ 140737488355328 := by omega
        have hO4 := hO3.below (w' := w3.alloc (.cells #[.int .u8 (97 + (k : Int) / 10), .int .u8 (48 + (k : Int) % 10)] 5)) ((Below.refl _ _).alloc (Nat.le_refl _) _)
        have hC4 := hC3.below (w1 := w3.alloc (.cells #[.int .u8 (97 + (k : Int) / 10), .int .u8 (48 + (k : Int) % 10)] 5)) ((Below.refl _ _).alloc (Nat.le_refl _) _)
        have hk61 : k + 1 ≤ 61 := by omega
        have hsz2 : (w3.alloc (.cells #[.int .u8 (97 + (k : Int) / 10), .int .u8 (48 + (k : Int) % 10)] 5)).heap.size = w3.heap.size + 1 := by simp
        have hcells : ∀ j u, (pairVals [(key, ⟨#[]⟩)])[j]? = some u → ((w3.alloc (.cells #[.int .u8 (97 + (k : Int) / 10), .int .u8 (48 + (k : Int) % 10)] 5)).alloc (.cells #[.string key, .string ⟨#[]⟩] 33)).cell? ((⟨w3.heap.size + 1, 0, none⟩ : Addr).add j) = some u := by
          rw [← hsz2]; exact one_pair_cells _ (key, ⟨#[]⟩) _
        have HCE := Hid.mk' hcells
        have hbase : w.heap.size + 1 ≤ ((w3.alloc (.cells #[.int .u8 (97 + (k : Int) / 10), .int .u8 (48 + (k : Int) % 10)] 5)).alloc (.cells #[.string key, .string ⟨#[]⟩] 33)).heap.size := by simp; omega
        clear hK hks hsz2 hcells
        go_wp2_with (at_builtin; refine wpList_append_own _ rfl (.tmp 18) (.tmp 30) 24 rfl (w.heap.size + 1) 33 i0 (.agg #[.string ⟨#[]⟩, .string ⟨#[]⟩]) 2 32 Try.underlying24 hif hz0 hz1 hz2 rfl (by decide) _ _ _ rfl (hO4.2.2.alloc _) ⟨w3.heap.size + 1, 0, none⟩ 1 1 (pairVals [(key, ⟨#[]⟩)]) rfl rfl HCE.out (pairVals_oneCell _) hc3 hc4 hbase ?_)
        intro v5 w5 hown hgrow hnn
        obtain ⟨g5, cp5, hv, hO5⟩ := ownP_app (p := (key, ⟨#[]⟩)) hO4.1 hO4.2.1 ⟨max13 (by rw [HKS.out]; omega), Nat.zero_le _⟩ hnn hown
        subst hv
        have hg5 : ((w3.alloc (.cells #[.int .u8 (97 + (k : Int) / 10), .int .u8 (48 + (k : Int) % 10)] 5)).alloc (.cells #[.string key, .string ⟨#[]⟩] 33)).grownBy w5 (some g) := hgrow
        have hC5 : Cur w w5 w.heap.size a len cap code := (hC4.below ((Below.refl _ _).alloc (Nat.le_refl _) _)).grown hg5 (by simpa using hgne.symm) (fun k e => by cases e; have := hO3.lt; omega)
        have ht5 : ∀ p ∈ l ++ [(key, (⟨#[]⟩ : ByteArray))], tiny p := by
          intro p hp
          rcases List.mem_append.1 hp with h1 | h1
          · exact ht p h1
          · simp at h1; subst h1; exact ⟨by show key.size ≤ 13; rw [HKS.out]; omega, Nat.zero_le _⟩
        have HO5 := Hid.mk' hO5
        clear hown hgrow hnn hO3 hO4 hC3 hC4 hg5 hO5 hcv
        go_wp2_with (at_builtin; fail)
        go_roundw
        case rel => exact ⟨k + 1, g5, cp5, _, by omega, by go_num, rfl, ht5, HO5.out, hC5⟩
        case measure => simp [intOf]; omega
      · go_wp2_with (at_builtin; fail)
        go_ret
        exact ⟨g, k, cp, l, by omega, ht, rfl, hO3.mono (by omega), hC3.bel⟩

end Go.Proofs.Ytblgkcgmnmligaa.pairs
