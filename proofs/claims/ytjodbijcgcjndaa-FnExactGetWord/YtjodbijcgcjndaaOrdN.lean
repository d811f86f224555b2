/- The program's orders as bytes. -/
import Derived.Test.YtjodbijcgcjndaaOrdJ
import Derived.Test.YtjodbijcgcjndaaOrdW
namespace Go.Proofs.Ytjodbijcgcjndaa.ords
open Go Go.RowKit Go.Proofs.Ytjodbijcgcjndaa.base Go.Proofs.Ytjodbijcgcjndaa.pairs Go.Proofs.Ytjodbijcgcjndaa.putnum Go.Proofs.Ytjodbijcgcjndaa.puttext Go.Proofs.Ytjodbijcgcjndaa.getnum Go.Proofs.Ytjodbijcgcjndaa.gettext
set_option linter.unusedVariables false
set_option linter.unusedSimpArgs false

/-- an order in a block of its own -/
def BoxO (X : Nat) (p : Od) (w : World) : Prop := w.heap[X]? = some (.cells #[.int .i64 p.1, .string p.2.1, .string p.2.2] 90 (0, 0))
theorem boxO_new (w : World) (p : Od) : BoxO w.heap.size p (w.alloc (.cells #[.int .i64 p.1, .string p.2.1, .string p.2.2] 90)) := heap_alloc_new w _
theorem BoxO.cells {X : Nat} {p : Od} {w : World} (h : BoxO X p w) : w.cell? ⟨X, 0, none⟩ = some (.int .i64 p.1) ∧ w.cell? ⟨X, 1, none⟩ = some (.string p.2.1) ∧ w.cell? ⟨X, 2, none⟩ = some (.string p.2.2) := by
  unfold BoxO at h
  simp [World.cell?, h]
theorem BoxO.lt {X : Nat} {p : Od} {w : World} (h : BoxO X p w) : X < w.heap.size := (Array.getElem?_eq_some_iff.1 h).1
theorem BoxO.keep {X : Nat} {p : Od} {w w' : World} (h : BoxO X p w) (hk : Keeps w w') : BoxO X p w' := by
  have h' := h
  unfold BoxO at h ⊢
  rw [hk.2 X h'.lt (fun cur e => by rw [h] at e; simp at e), h]
theorem BoxO.alloc {X : Nat} {p : Od} {w : World} (h : BoxO X p w) (o : Obj) : BoxO X p (w.alloc o) := by
  have h' := h.lt
  unfold BoxO at h ⊢
  rw [(World.grownBy_alloc w o none).block X h' (by simp), h]
def HoldO (X : Nat) (p : Od) (w' : World) : Prop := BoxO X p w' ∧ w'.cell? ⟨X, 0, none⟩ = some (.int .i64 p.1) ∧ w'.cell? ⟨X, 1, none⟩ = some (.string p.2.1) ∧ w'.cell? ⟨X, 2, none⟩ = some (.string p.2.2)
theorem keepO {X : Nat} {p : Od} {w w' : World} (hk : Keeps w w') (h : BoxO X p w ∧ w.cell? ⟨X, 0, none⟩ = some (.int .i64 p.1) ∧ w.cell? ⟨X, 1, none⟩ = some (.string p.2.1) ∧ w.cell? ⟨X, 2, none⟩ = some (.string p.2.2)) :
    BoxO X p w' ∧ w'.cell? ⟨X, 0, none⟩ = some (.int .i64 p.1) ∧ w'.cell? ⟨X, 1, none⟩ = some (.string p.2.1) ∧ w'.cell? ⟨X, 2, none⟩ = some (.string p.2.2) :=
  ⟨h.1.keep hk, (h.1.keep hk).cells⟩
theorem keepOa {X : Nat} {p : Od} {w : World} {o : Obj} (h : BoxO X p w ∧ w.cell? ⟨X, 0, none⟩ = some (.int .i64 p.1) ∧ w.cell? ⟨X, 1, none⟩ = some (.string p.2.1) ∧ w.cell? ⟨X, 2, none⟩ = some (.string p.2.2)) :
    BoxO X p (w.alloc o) ∧ (w.alloc o).cell? ⟨X, 0, none⟩ = some (.int .i64 p.1) ∧ (w.alloc o).cell? ⟨X, 1, none⟩ = some (.string p.2.1) ∧ (w.alloc o).cell? ⟨X, 2, none⟩ = some (.string p.2.2) :=
  ⟨h.1.alloc o, (h.1.alloc o).cells⟩
/-- two strings in a block of their own -/
def TwoS (X : Nat) (k v : ByteArray) (w : World) : Prop := w.heap[X]? = some (.cells #[.string k, .string v] 9 (0, 0))
theorem twoS_new (w : World) (k v : ByteArray) : TwoS w.heap.size k v (w.alloc (.cells #[.string k, .string v] 9)) := heap_alloc_new w _
theorem TwoS.keep {X : Nat} {k v : ByteArray} {w w' : World} (h : TwoS X k v w) (hk : Keeps w w') : TwoS X k v w' := by
  unfold TwoS at h ⊢
  rw [hk.2 X (Array.getElem?_eq_some_iff.1 h).1 (fun cur e => by rw [h] at e; simp at e), h]
theorem TwoS.sl {X : Nat} {k v : ByteArray} {w : World} (h : TwoS X k v w) (hk : k.size ≤ maxLen) (hv : v.size ≤ maxLen) : SlS w (some ⟨X, 0, none⟩) 2 [k, v] := by
  refine ⟨rfl, by unfold maxLen; omega, ?_, fun _ => ⟨X, 0, rfl, ?_⟩⟩
  · intro s hs
    simp at hs
    rcases hs with rfl | rfl
    · exact hk
    · exact hv
  · intro i hi
    unfold TwoS at h
    match i, hi with
    | 0, _ => simp [World.cell?, h]
    | 1, _ => simp [World.cell?, h]
theorem TwoS.blk {X : Nat} {k v : ByteArray} {w : World} (h : TwoS X k v w) : ∀ b off, (some ⟨X, 0, none⟩ : Option Addr) = some ⟨b, off, none⟩ → ∃ cur mk, w.heap[b]? = some (.cells cur 9 mk) := by
  intro b off e
  cases e
  exact ⟨_, _, h⟩
theorem own_alloc {w : World} {base g n cap : Nat} {bs : List UInt8} (h : Own w base g n cap bs) (o : Obj) : Own (w.alloc o) base g n cap bs := h.below ((Below.refl _ _).alloc (Nat.le_refl _) _)
theorem texts_two (k v : ByteArray) : textsBytes [k, v] = textBytes k ++ textBytes v := by simp [textsBytes]

set_option maxRecDepth 100000 in
set_option maxHeartbeats 4000000 in
theorem impl_putOps (b off len cap : Nat) (l : List Od) (w : World) (h : SlO w (some ⟨b, off, none⟩) len l) (hks : ∀ p ∈ l, p.2.1.size ≤ 1099511627776) :
    Calls Try.prog 54 #[.slice (some ⟨b, off, none⟩) len cap] w fun e w' =>
      ∃ g' n' cap', e = .returned (.slice (some ⟨g', 0, none⟩) n' cap') ∧ Own w' w.heap.size g' n' cap' (putOps l) ∧ Below w.heap.size w w' := by
  have HOK := Hid.mk' (impl_opsOk b off len cap l w h hks)
  have hl := h.1
  subst hl
  cases hok : opsOk l
  · rw [hok] at HOK
    have HP : Hid (putOps l = []) := opsOk_put l hok
    clear hok
    go_enter Try.func54, Try.ntmps54
    go_wp2_with fail
    refine HOK.out.mono ?_
    rintro e w1 ⟨rfl, hb1⟩
    have hO1 := own_made w1 w.heap.size hb1.size
    go_wp2_with fail
    go_ret
    exact ⟨_, _, _, rfl, by rw [HP.out]; exact hO1, hb1.alloc hb1.size _⟩
  · rw [hok] at HOK
    have HP : Hid (putOps l = numBytes (l.length : Int) ++ odsBytes l) := by show _ = _; unfold putOps; rw [if_pos hok]
    obtain ⟨⟨hall, _⟩, hl1, hl8⟩ := (opsOk_iff l).1 hok
    clear hok
    have hnb := numBytes_length (l.length : Int)
    go_enter Try.func54, Try.ntmps54
    go_wp2_with fail
    refine HOK.out.mono ?_
    rintro e w1 ⟨rfl, hb1⟩
    have hO1 := own_made w1 w.heap.size hb1.size
    have hb1' : Below w.heap.size w (w1.alloc (.cells #[] 5)) := hb1.alloc hb1.size _
    have HPN := Hid.mk' (addNum w1.heap.size 0 0 w.heap.size [] (l.length : Int) _ hO1 hb1'.size (WalkArith.wf_i64 (by omega)) (by omega))
    clear HOK hO1
    go_wp2_with fail
    refine HPN.out.mono ?_
    rintro e w2 ⟨g2, n2, cp2, rfl, hO2, hb2, hk2⟩
    have hB2 : Below w.heap.size w w2 := hb1'.trans hb2
    clear HPN hb2 hb1 hb1' hk2
    have hn2 := hO2.1
    go_wp2_with fail
    go_loopw [3, 16] (fun v i wr => ∃ (k g n cp : Nat), k ≤ l.length ∧ n ≤ 5 + 47 * k ∧ i = .int .i64 (k : Int) ∧ v = .slice (some ⟨g, 0, none⟩) n cp ∧ Own wr w.heap.size g n cp (numBytes (l.length : Int) ++ odsBytes (l.take k)) ∧ Below w.heap.size w wr) (fun _ i _ => l.length - (intOf i).toNat)
    case atStart => exact ⟨0, g2, n2, cp2, Nat.zero_le _, by simp at hn2; omega, rfl, rfl, by simpa [odsBytes] using hO2, hB2⟩
    case round =>
      clear hO2 hB2 hn2
      obtain ⟨k, g, n, cp, hk, hn, rfl, rfl, hO, hB⟩ := hrel
      by_cases hlt : k < l.length
      · obtain ⟨c0, c1, c2⟩ := (h.below hB).cells k hlt
        have hki : (k : Int) < (l.length : Int) := by omega
        have hpk := hall _ (List.getElem_mem hlt)
        have HT : Hid (numBytes (l.length : Int) ++ odsBytes (l.take (k + 1)) = (numBytes (l.length : Int) ++ odsBytes (l.take k)) ++ odBytes l[k]) := by show _ = _; rw [odsBytes_take l k hlt, List.append_assoc]
        have hol := odBytes_length hpk
        obtain ⟨hz, _, hkey, hval⟩ := (odOk_iff _).1 hpk
        have hks' := keyOk_size hkey
        have hzf : (Lit.int .i64 l[k].1).wf = true := WalkArith.wf_i64 (by omega)
        generalize l[k] = p at *
        generalize numBytes (l.length : Int) ++ odsBytes (l.take k) = B at *
        have hnz := numBytes_length p.1
        have htk := textBytes_length p.2.1
        have htv := textBytes_length p.2.2
        have hbx := boxO_new wr p
        have hBA : Below w.heap.size w (wr.alloc (.cells #[.int .i64 p.1, .string p.2.1, .string p.2.2] 90)) := hB.alloc hB.size _
        have hOA := own_alloc hO (.cells #[.int .i64 p.1, .string p.2.1, .string p.2.2] 90)
        have hbw := hBA.size
        go_wp2_with fail
        generalize hX : wr.heap.size = X at *
        generalize hW : wr.alloc (.cells #[.int .i64 p.1, .string p.2.1, .string p.2.2] 90) = W at *
        obtain ⟨d0, d1, d2⟩ := hbx.cells
        have hOB : ∀ o, Own (W.drew.alloc o) w.heap.size g n cp B := fun o => own_alloc (show Own W.drew w.heap.size g n cp B from hOA) o
        have hOC : Own W.drew w.heap.size g n cp B := hOA
        have hnB := hOA.1
        have htt : (textsBytes [p.2.1, p.2.2]).length ≤ 42 := by rw [texts_two, List.length_append]; omega
        have HSS : Hid (∀ s ∈ [p.2.1, p.2.2], s.size ≤ 549755813888) := by
          intro s hs
          simp at hs
          rcases hs with rfl | rfl <;> omega
        have hkm : p.2.1.size ≤ maxLen := by unfold maxLen; omega
        have hvm : p.2.2.size ≤ maxLen := by unfold maxLen; omega
        clear hW hO hB c0 c1 c2 hX
        go_region_held3 (fun w' => BoxO X p w' ∧ w'.cell? ⟨X, 0, none⟩ = some (.int .i64 p.1) ∧ w'.cell? ⟨X, 1, none⟩ = some (.string p.2.1) ∧ w'.cell? ⟨X, 2, none⟩ = some (.string p.2.2)) (first | (exact ⟨hbx, d0, d1, d2⟩) | (exact keepO hk6 (by assumption)) | (exact keepO hk5 (by assumption)) | (exact keepOa (by assumption)) | (go_keep)) (first | (go_at_call 72; have h9 : Keeps W.drew w5 := (by with_reducible exact hk5); refine (puttext.addTexts g5 n5 cp5 w.heap.size (B ++ numBytes p.1) (some ⟨w5.heap.size, 0, none⟩) 2 2 [p.2.1, p.2.2] _ (own_alloc hO5 _) (le_alloc _ _ (Nat.le_trans hbw h9.1)) ((twoS_new w5 p.2.1 p.2.2).sl hkm hvm) (twoS_new w5 p.2.1 p.2.2).blk (by have := hO5.1; simp only [List.length_append] at this; omega) HSS.out).mono ?_; rintro e w6 ⟨g6, n6, cp6, rfl, hO6, hb6, hk6⟩) | (go_at_call 72; have h9 : Keeps (W.alloc (.cells #[.string p.2.1, .string p.2.2] 9)).drew w5 := (by with_reducible exact hk5); have h8 : TwoS W.heap.size p.2.1 p.2.2 w5 := TwoS.keep (w := (W.alloc (.cells #[.string p.2.1, .string p.2.2] 9)).drew) (twoS_new W p.2.1 p.2.2) h9; refine (puttext.addTexts g5 n5 cp5 w.heap.size (B ++ numBytes p.1) (some ⟨W.heap.size, 0, none⟩) 2 2 [p.2.1, p.2.2] _ hO5 (Nat.le_trans (le_alloc _ _ hbw) h9.1) (h8.sl hkm hvm) h8.blk (by have := hO5.1; simp only [List.length_append] at this; omega) HSS.out).mono ?_; rintro e w6 ⟨g6, n6, cp6, rfl, hO6, hb6, hk6⟩) | (go_at_call 71; refine (addNum g n cp w.heap.size B p.1 _ (by first | exact hOC | exact hOB _) (by first | exact hbw | exact le_alloc _ _ hbw) hzf (by omega)).mono ?_; rintro e w5 ⟨g5, n5, cp5, rfl, hO5, hb5, hk5⟩))
        all_goals
          have hB5 : Below w.heap.size w w5 := (by first | exact hBA.drew.trans hb5 | exact ((hBA.alloc hBA.size _).drew).trans hb5)
          have hB6 : Below w.heap.size w w6 := (by first | exact hB5.trans hb6 | exact (hB5.alloc hB5.size _).trans hb6)
          have hn6 : n6 ≤ 5 + 47 * (k + 1) := by
            have e1 := hO6.1
            have e2 := hO5.1
            rw [texts_two] at e1
            simp [odBytes] at e1 e2 hol
            omega
          have e : B ++ numBytes p.1 ++ textsBytes [p.2.1, p.2.2] = B ++ odBytes p := by rw [texts_two]; simp [odBytes]
          rw [e] at hO6
          have HO6 := Hid.mk' hO6
          clear hb5 hb6 hO5 hO6 hOA hOB hOC hBA hB5 d0 d1 d2 e hk5 hk6
          go_wp2_with fail
          go_roundw
          case rel => exact ⟨k + 1, g6, n6, cp6, by omega, hn6, by go_num, rfl, by rw [HT.out]; exact HO6.out, hB6⟩
          case measure => simp [intOf]; omega
      · have HE : Hid (l.take k = l) := List.take_of_length_le (by omega)
        go_wp2_with fail
        go_ret
        rw [HE.out, ← HP.out] at hO
        exact ⟨g, n, cp, rfl, hO, hB⟩
end Go.Proofs.Ytjodbijcgcjndaa.ords
