/- The specification's clashes. -/
import Derived.Test.YtdebbgodhpcijaaGreatDoorClashM
import Derived.Test.YtdebbgodhpcijaaGreatDoorPairQ
import Derived.Deep.RegionHeldLaw
import Derived.Deep.RegionHeld3
namespace Go.Proofs.YtdebbgodhpcijaaGreatDoor.clash
open Go Go.RowKit Go.Proofs.YtdebbgodhpcijaaGreatDoor.base Go.Proofs.YtdebbgodhpcijaaGreatDoor.pairs Go.Proofs.YtdebbgodhpcijaaGreatDoor.tree Go.Proofs.YtdebbgodhpcijaaGreatDoor.range Go.Proofs.YtdebbgodhpcijaaGreatDoor.puttext Go.Proofs.YtdebbgodhpcijaaGreatDoor.putnum
set_option linter.unusedVariables false
set_option linter.unusedSimpArgs false

theorem dgs_size (a : ByteArray) : (dgs a).size = 32 := dg_size _
theorem first_eq (x y : ByteArray) (n : Nat) : ((x.extract 0 n).toList == (y.extract 0 n).toList) = decide (x.data.toList.take n = y.data.toList.take n) := by
  rw [ByteArray.toList_eq, ByteArray.toList_eq, Bool.eq_iff_iff, beq_iff_eq, decide_eq_true_iff]
  have e : ∀ z : ByteArray, (z.extract 0 n).data.toList = z.data.toList.take n := by
    intro z
    rw [ByteArray.data_extract, Array.toList_extract]
    simp
  rw [e, e]
theorem keepConv {w wx : World} (t : TypeId) (s : ByteArray) (h : Below w.heap.size w wx) : Below w.heap.size w (Lib.bytesWorld wx t s) := h.trans ((below_bytesWorld wx t s).mono h.size)
theorem keepCall {w wx wy : World} (hb : Below wx.heap.size wx wy) (h : Below w.heap.size w wx) : Below w.heap.size w wy := h.trans (hb.mono h.size)
set_option maxRecDepth 100000 in
set_option maxHeartbeats 2000000 in
theorem spec_isClash (a b : ByteArray) (k : Int) (w : World) (ha : a.size ≤ 1099511627776) (hb : b.size ≤ 1099511627776) :
    Calls Tryz.prog 38 #[.string a, .string b, .int .i64 k] w fun e w' => e = .returned (.bool (isClash a b k)) ∧ Below w.heap.size w w' := by
  have hin := fun wx => s_inI k 0 32 wx
  have hdr : Below w.heap.size w w.drew := (Below.refl _ _).drew
  by_cases hk : 0 ≤ k ∧ k ≤ 32
  · rw [decide_eq_true hk] at hin
    have HI := Hid.mk' hin
    clear hin
    by_cases hab : a = b
    · have HR : Hid (isClash a b k = false) := by show _ = _; rw [hab]; exact isClash_self b k
      subst hab
      have hne : (a.toList == a.toList) = true := beq_self_eq_true _
      have hinh := last.On.inh w.heap.size w
      have hcall : ∀ x : last.On w.heap.size w, Calls Tryz.prog 33 #[.int .i64 k, .int .i64 0, .int .i64 32] x.w fun e w' => e = .returned (.bool true) ∧ ∃ y : last.On w.heap.size w, w' = y.w := fun x => (HI.out x.w).mono (fun e w' h => ⟨h.1, x, h.2⟩)
      clear hk
      go_enter Tryz.func38, Tryz.ntmps38
      go_wp2_with fail
      refine last.wp_region_on w.heap.size (by kernel_rfl) (by kernel_rfl) ?_
      repeat (go_big_quiet_step ((go_at_call 33; with_reducible exact hcall _)))
      refine wpQuiet_nil ?_
      intro w1 hw1
      obtain ⟨x1, hw1⟩ := hw1
      subst hw1
      go_wp2_with fail
      go_ret
      exact ⟨ret_bool (by rw [HR.out]), x1.2⟩
    · obtain ⟨n, hn⟩ : ∃ n : Nat, k = (n : Int) := ⟨k.toNat, by omega⟩
      subst hn
      have HR : Hid (isClash a b (n : Int) = decide ((dgs a).data.toList.take n = (dgs b).data.toList.take n)) := by
        show _ = _; unfold isClash; rw [decide_eq_true hk, decide_eq_true hab, Int.toNat_natCast]; rfl
      have hda := dgs_size a
      have hdb := dgs_size b
      have hn32 : (n : Int) ≤ 32 := hk.2
      have hn33 : n ≤ 32 := by omega
      have hne : (a.toList == b.toList) = false := beq_eq_false_iff_ne.2 (fun e => hab (bytes_ext (by rw [← ByteArray.toList_eq, ← ByteArray.toList_eq]; exact e)))
      have HDG : Hid (∀ (s : ByteArray) (g c : Nat) (wx : World), Bts wx g s → s.size ≤ 1099511627776 → Calls Tryz.prog 63 #[.slice (some ⟨g, 0, none⟩) s.size c] wx fun e w' => e = .returned (.string (dgs s)) ∧ Below wx.heap.size wx w') := fun s g c wx h hs => sha.spec_digest g 0 s.size c s.data.toList wx (sl_bts h (by unfold maxLen; omega)) (by omega)
      have hcv : ∀ (s : ByteArray) (wx : World), (convert 9 22 (.string s)).run Tryz.prog wx = .ok (.slice (some ⟨wx.heap.size, 0, none⟩) s.size (grownCap wx s.size 0 5)) (Lib.bytesWorld wx 5 s) := fun s wx => Lib.run_convert_string_bytes (P := Tryz.prog) wx 9 22 5 s Tryz.underlying9 Tryz.underlying22 Tryz.underlying5
      have bt1 : ∀ (wx : World) (s : ByteArray), Bts (Lib.bytesWorld wx.drew 5 s) wx.heap.size s := fun wx s => bts_new wx.drew s
      have bt2 : ∀ (wx : World) (s t : ByteArray), Bts (Lib.bytesWorld (Lib.bytesWorld wx.drew 5 s) 5 t) wx.heap.size s := fun wx s t => (bts_new wx.drew s).below (below_bytesWorld _ _ _)
      have bt3 : ∀ (wx : World) (s t : ByteArray), Bts (Lib.bytesWorld (Lib.bytesWorld wx.drew 5 s) 5 t) (Lib.bytesWorld wx.drew 5 s).heap.size t := fun wx s t => bts_new _ t
      have bt4 : ∀ (wx : World) (s t : ByteArray), Bts (Lib.bytesWorld (Lib.bytesWorld wx.drew 5 s) 5 t) (wx.heap.size + 1) t := fun wx s t => by have := bt3 wx s t; rw [Lib.bytesWorld_size] at this; exact this
      have B1 := Hid.mk' bt1
      have B2 := Hid.mk' bt2
      have B3 := Hid.mk' bt3
      have B4 := Hid.mk' bt4
      clear hk hab bt1 bt2 bt3 bt4
      go_enter Tryz.func38, Tryz.ntmps38
      go_wp2_with fail
      go_region_held_law (fun w' => Below w.heap.size w w') (first | with_reducible exact hdr | with_reducible assumption | (refine keepConv _ _ ?_; with_reducible assumption) | (refine keepCall hbB ?_; with_reducible assumption) | (refine keepCall hbA ?_; with_reducible assumption)) (first | (go_at_call 33; refine (HI.out _).mono ?_; rintro e w1 ⟨rfl, hw1⟩; subst hw1) | (go_at_call 63; have h9 := hbA; refine (HDG.out b _ _ _ (by first | with_reducible exact bts_new wA b | with_reducible exact (B2.out w b a).below hbA | with_reducible exact (B3.out w a b).below hbA | with_reducible exact (B4.out w a b).below hbA) hb).mono ?_; rintro e wB ⟨rfl, hbB⟩) | (go_at_call 63; refine (HDG.out a _ _ _ (by first | with_reducible exact B1.out w a | with_reducible exact B2.out w a b | with_reducible exact B3.out w b a | with_reducible exact B4.out w b a) ha).mono ?_; rintro e wA ⟨rfl, hbA⟩))
      all_goals
        go_wp2_with fail
        go_ret
        exact ⟨ret_bool (by rw [HR.out]; exact first_eq _ _ _), by assumption⟩
  · rw [decide_eq_false hk] at hin
    have HI := Hid.mk' hin
    clear hin
    have HR : Hid (isClash a b k = false) := by show _ = _; unfold isClash; rw [decide_eq_false hk]; rfl
    have hinh := last.On.inh w.heap.size w
    have hcall : ∀ x : last.On w.heap.size w, Calls Tryz.prog 33 #[.int .i64 k, .int .i64 0, .int .i64 32] x.w fun e w' => e = .returned (.bool false) ∧ ∃ y : last.On w.heap.size w, w' = y.w := fun x => (HI.out x.w).mono (fun e w' h => ⟨h.1, x, h.2⟩)
    clear hk
    go_enter Tryz.func38, Tryz.ntmps38
    go_wp2_with fail
    refine last.wp_region_on w.heap.size (by kernel_rfl) (by kernel_rfl) ?_
    repeat (go_big_quiet_step ((go_at_call 33; with_reducible exact hcall _)))
    refine wpQuiet_nil ?_
    intro w1 hw1
    obtain ⟨x1, hw1⟩ := hw1
    subst hw1
    go_wp2_with fail
    go_ret
    exact ⟨ret_bool (by rw [HR.out]), x1.2⟩
end Go.Proofs.YtdebbgodhpcijaaGreatDoor.clash
