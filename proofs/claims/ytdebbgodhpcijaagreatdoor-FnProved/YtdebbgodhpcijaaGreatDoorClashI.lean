/- The program's clashes: the first bytes of two digests, compared as arrays. -/
import Derived.Test.YtdebbgodhpcijaaGreatDoorClashS
import Derived.Test.YtdebbgodhpcijaaGreatDoorShaQ
import Derived.Lib.BufferWrite
import Derived.Stop.BytesEq
import Derived.Deep.MidRow
import Derived.Deep.RegionHeldLaw
namespace Go.Proofs.YtdebbgodhpcijaaGreatDoor.clash
open Go Go.RowKit Go.Proofs.YtdebbgodhpcijaaGreatDoor.base Go.Proofs.YtdebbgodhpcijaaGreatDoor.pairs Go.Proofs.YtdebbgodhpcijaaGreatDoor.tree Go.Proofs.YtdebbgodhpcijaaGreatDoor.range Go.Proofs.YtdebbgodhpcijaaGreatDoor.puttext Go.Proofs.YtdebbgodhpcijaaGreatDoor.putnum
set_option linter.unusedVariables false
set_option linter.unusedSimpArgs false

/-- a text's bytes copied into a row, as one step of a region that draws its order -/
theorem step_copy_str {ops : Array Oper} {o : Oper} {a : Act} {w : World} {K : Act → World → Prop} {Q : Exit → Act → World → Prop} {E : Prop} (hw : Region.wanted o (yielded ops a.tmps) = true) (d s : Operand) (dT sT elem : TypeId)
    (ho : o.op = .call { callee := .builtin .copy, args := #[d, s], argTypes := #[dT, sT] }) (hu : Tryz.prog.underlying dT = some (.slice elem)) (hsz : (Tryz.prog.info? elem).map (·.size) = some 1)
    (g dLen dCap : Nat) (str : ByteArray) (cur : Array Value) (t : TypeId) (hd : a.eval d = .slice (some ⟨g, 0, none⟩) dLen dCap) (hs : a.eval s = .string str)
    (hg : w.heap[g]? = some (.cells cur t (0, 0))) (hle : str.size ≤ dLen) (hfit : str.size ≤ cur.size)
    (h : ∀ w', w'.heap[g]? = some (.cells (Lib.byteCells str.data.toList ++ cur.toList.drop str.size).toArray t (0, 0)) → w.grownBy w' (some g) → K (a.put o.dst (goInt str.size)) w') :
    if Region.wanted o (yielded ops a.tmps) = true then Oper.wp Tryz.prog o a w K Q else E := by
  rw [if_pos hw]
  have hrun := Lib.run_copy_row_string (P := Tryz.prog) w dT sT o.type elem g 0 dLen dCap str cur t hu hsz hg hle (by omega)
  unfold Oper.wp
  simp [execOp, ho, resolve, invoke, builtin, hd, hs, hrun, Result.andThen]
  refine h _ ?_ ⟨rfl, rfl, rfl, by simp [World.setRow], fun k hk hne => setRow_other w g k _ (by intro e; exact hne (by rw [e]))⟩
  rw [setRow_heap w g cur _ t (0, 0) hg]
/-- the first k of 32 bytes, and noughts behind them -/
def pad32 (k : Nat) (d : List UInt8) : List UInt8 := d.take k ++ List.replicate (32 - k) 0
theorem pad32_length (k : Nat) (d : List UInt8) (hk : k ≤ 32) (hd : d.length = 32) : (pad32 k d).length = 32 := by
  unfold pad32; simp; omega
theorem pad32_eq (k : Nat) (d e : List UInt8) (hd : d.length = 32) (he : e.length = 32) : (pad32 k d == pad32 k e) = decide (d.take k = e.take k) := by
  rw [Bool.eq_iff_iff, beq_iff_eq, decide_eq_true_iff]
  unfold pad32
  exact ⟨fun h => (List.append_inj h (by simp [hd, he])).1, fun h => by rw [h]⟩
theorem below_setCells {B b : Nat} {a : World} (hb : B ≤ b) : ∀ (vs : List Value) (o : Nat) (w : World), Below B a w → Below B a (w.setCells b o vs)
  | [], _, _, h => h
  | v :: vs, o, w, h => below_setCells hb vs (o + 1) _ (h.setCell (p := ⟨b, o, none⟩) hb v)
/-- block g is an array of the bytes bs -/
def ArrB (w : World) (g : Nat) (bs : List UInt8) : Prop := w.heap[g]? = some (.cells (bs.map Extern.Stop.cell).toArray 96 (0, 0))
theorem ArrB.lt {w : World} {g : Nat} {bs : List UInt8} (h : ArrB w g bs) : g < w.heap.size := (Array.getElem?_eq_some_iff.1 h).1
theorem ArrB.below {w w' : World} {g : Nat} {bs : List UInt8} (h : ArrB w g bs) (hb : Below w.heap.size w w') : ArrB w' g bs := (hb.block g h.lt).trans h
theorem ArrB.grown {w w' : World} {g : Nat} {bs : List UInt8} {row : Option Nat} (h : ArrB w g bs) (hg : w.grownBy w' row) (hne : some g ≠ row) : ArrB w' g bs := (hg.block g h.lt hne).trans h
theorem ArrB.range {w : World} {g : Nat} {bs : List UInt8} (h : ArrB w g bs) : w.rangeAt g 0 (bs.map Extern.Stop.cell) := by
  intro j v hv
  rw [Nat.zero_add]
  exact cell_cur h j v (by simpa using hv)
theorem ArrB.there {w : World} {g : Nat} {bs : List UInt8} (h : ArrB w g bs) (n : Nat) (hn : n = bs.length) : w.there g 0 n := by
  intro j hj
  have hj2 : j < bs.length := by omega
  rw [Nat.zero_add]
  refine ⟨?_, ?_⟩
  · rw [cell_cur h j (Extern.Stop.cell bs[j]) (by simp [hj2])]; rfl
  · unfold ArrB at h; simp [World.frozen?, h]
theorem zeros32 : (#[.int .u8 0, .int .u8 0, .int .u8 0, .int .u8 0, .int .u8 0, .int .u8 0, .int .u8 0, .int .u8 0, .int .u8 0, .int .u8 0, .int .u8 0, .int .u8 0, .int .u8 0, .int .u8 0, .int .u8 0, .int .u8 0, .int .u8 0, .int .u8 0, .int .u8 0, .int .u8 0, .int .u8 0, .int .u8 0, .int .u8 0, .int .u8 0, .int .u8 0, .int .u8 0, .int .u8 0, .int .u8 0, .int .u8 0, .int .u8 0, .int .u8 0, .int .u8 0] : Array Value) = ((List.replicate 32 (0 : UInt8)).map Extern.Stop.cell).toArray := by rfl
def setAll : Array Value → Nat → List Value → Array Value
  | cur, _, [] => cur
  | cur, o, v :: vs => setAll (cur.setIfInBounds o v) (o + 1) vs
theorem heap_setCells {g : Nat} {t : TypeId} : ∀ (vs : List Value) (o : Nat) (w : World) (cur : Array Value), w.heap[g]? = some (.cells cur t (0, 0)) → (w.setCells g o vs).heap[g]? = some (.cells (setAll cur o vs) t (0, 0))
  | [], _, _, _, h => h
  | v :: vs, o, w, cur, h => heap_setCells vs (o + 1) _ _ (set_cur h o v).1
set_option maxRecDepth 10000 in
theorem setAll_zeros : setAll #[.int .u8 0, .int .u8 0, .int .u8 0, .int .u8 0, .int .u8 0, .int .u8 0, .int .u8 0, .int .u8 0, .int .u8 0, .int .u8 0, .int .u8 0, .int .u8 0, .int .u8 0, .int .u8 0, .int .u8 0, .int .u8 0, .int .u8 0, .int .u8 0, .int .u8 0, .int .u8 0, .int .u8 0, .int .u8 0, .int .u8 0, .int .u8 0, .int .u8 0, .int .u8 0, .int .u8 0, .int .u8 0, .int .u8 0, .int .u8 0, .int .u8 0, .int .u8 0] 0 (#[.int .u8 0, .int .u8 0, .int .u8 0, .int .u8 0, .int .u8 0, .int .u8 0, .int .u8 0, .int .u8 0, .int .u8 0, .int .u8 0, .int .u8 0, .int .u8 0, .int .u8 0, .int .u8 0, .int .u8 0, .int .u8 0, .int .u8 0, .int .u8 0, .int .u8 0, .int .u8 0, .int .u8 0, .int .u8 0, .int .u8 0, .int .u8 0, .int .u8 0, .int .u8 0, .int .u8 0, .int .u8 0, .int .u8 0, .int .u8 0, .int .u8 0, .int .u8 0] : Array Value).toList = #[.int .u8 0, .int .u8 0, .int .u8 0, .int .u8 0, .int .u8 0, .int .u8 0, .int .u8 0, .int .u8 0, .int .u8 0, .int .u8 0, .int .u8 0, .int .u8 0, .int .u8 0, .int .u8 0, .int .u8 0, .int .u8 0, .int .u8 0, .int .u8 0, .int .u8 0, .int .u8 0, .int .u8 0, .int .u8 0, .int .u8 0, .int .u8 0, .int .u8 0, .int .u8 0, .int .u8 0, .int .u8 0, .int .u8 0, .int .u8 0, .int .u8 0, .int .u8 0] := by kernel_rfl
theorem heap_setCells_other {g k : Nat} (hk : k ≠ g) : ∀ (vs : List Value) (o : Nat) (w : World), (w.setCells g o vs).heap[k]? = w.heap[k]?
  | [], _, _ => rfl
  | v :: vs, o, w => (heap_setCells_other hk vs (o + 1) _).trans (heap_setCell_other w ⟨g, o, none⟩ k v (by simpa using hk))
theorem one_cells (bs : List UInt8) : (bs.map Extern.Stop.cell).toArray.all (·.oneCell') = true :=
  all_oneCell_toArray fun v hv => by obtain ⟨u, _, rfl⟩ := List.mem_map.1 hv; rfl
theorem pad_cells {w : World} {g k : Nat} {D e : List UInt8} {n : Nat} (hn : n = k) (he : e = D.take k) (h : w.heap[g]? = some (.cells (Lib.byteCells e ++ (((List.replicate 32 (0 : UInt8)).map Extern.Stop.cell).toArray).toList.drop n).toArray 96 (0, 0))) : ArrB w g (pad32 k D) := by
  subst hn he
  unfold ArrB pad32
  rw [h]
  congr 2
  rw [List.map_append, List.toList_toArray, ← List.map_drop, List.drop_replicate]
  rfl
theorem infoArr : (Tryz.prog.info? 96).map (·.size) = some 32 := by kernel_rfl
theorem infoB : (Tryz.prog.info? 5).map (·.size) = some 1 := by kernel_rfl
theorem keepCopy {w wx wy : World} (hg : wx.grownBy wy (some (w.heap.size + 1))) (h : Below w.heap.size w wx) : Below w.heap.size w wy := h.grown hg h.size (fun k e => by cases e; exact Nat.le_succ _)
set_option maxRecDepth 100000 in
set_option maxHeartbeats 2000000 in
theorem impl_firstBytes (s : ByteArray) (k : Nat) (w : World) (hk : k ≤ 32) (hs : s.size ≤ 1099511627776) (hK : sha.KW w) :
    Calls Tryz.prog 69 #[.string s, .int .i64 (k : Int)] w fun e w' => e = .returned (.agg ((pad32 k (dgs s).data.toList).map Extern.Stop.cell).toArray) ∧ Below w.heap.size w w' := by
  obtain ⟨w2, hw2⟩ : ∃ w2, w2 = (w.alloc (.cells #[.int .u8 0, .int .u8 0, .int .u8 0, .int .u8 0, .int .u8 0, .int .u8 0, .int .u8 0, .int .u8 0, .int .u8 0, .int .u8 0, .int .u8 0, .int .u8 0, .int .u8 0, .int .u8 0, .int .u8 0, .int .u8 0, .int .u8 0, .int .u8 0, .int .u8 0, .int .u8 0, .int .u8 0, .int .u8 0, .int .u8 0, .int .u8 0, .int .u8 0, .int .u8 0, .int .u8 0, .int .u8 0, .int .u8 0, .int .u8 0, .int .u8 0, .int .u8 0] 96)).alloc (.cells #[.int .u8 0, .int .u8 0, .int .u8 0, .int .u8 0, .int .u8 0, .int .u8 0, .int .u8 0, .int .u8 0, .int .u8 0, .int .u8 0, .int .u8 0, .int .u8 0, .int .u8 0, .int .u8 0, .int .u8 0, .int .u8 0, .int .u8 0, .int .u8 0, .int .u8 0, .int .u8 0, .int .u8 0, .int .u8 0, .int .u8 0, .int .u8 0, .int .u8 0, .int .u8 0, .int .u8 0, .int .u8 0, .int .u8 0, .int .u8 0, .int .u8 0, .int .u8 0] 96) := ⟨_, rfl⟩
  have hB2 : Below w.heap.size w w2 := by rw [hw2]; exact ((Below.refl _ _).alloc (Nat.le_refl _) _).alloc (by simp) _
  have hA2 : ArrB w2 (w.heap.size + 1) (List.replicate 32 0) := by
    rw [hw2]; unfold ArrB; rw [← zeros32]
    have := heap_alloc_new (w.alloc (.cells #[.int .u8 0, .int .u8 0, .int .u8 0, .int .u8 0, .int .u8 0, .int .u8 0, .int .u8 0, .int .u8 0, .int .u8 0, .int .u8 0, .int .u8 0, .int .u8 0, .int .u8 0, .int .u8 0, .int .u8 0, .int .u8 0, .int .u8 0, .int .u8 0, .int .u8 0, .int .u8 0, .int .u8 0, .int .u8 0, .int .u8 0, .int .u8 0, .int .u8 0, .int .u8 0, .int .u8 0, .int .u8 0, .int .u8 0, .int .u8 0, .int .u8 0, .int .u8 0] 96)) (.cells #[.int .u8 0, .int .u8 0, .int .u8 0, .int .u8 0, .int .u8 0, .int .u8 0, .int .u8 0, .int .u8 0, .int .u8 0, .int .u8 0, .int .u8 0, .int .u8 0, .int .u8 0, .int .u8 0, .int .u8 0, .int .u8 0, .int .u8 0, .int .u8 0, .int .u8 0, .int .u8 0, .int .u8 0, .int .u8 0, .int .u8 0, .int .u8 0, .int .u8 0, .int .u8 0, .int .u8 0, .int .u8 0, .int .u8 0, .int .u8 0, .int .u8 0, .int .u8 0] 96)
    simpa using this
  have hR2 : ArrB w2 w.heap.size (List.replicate 32 0) := by
    rw [hw2]; unfold ArrB; rw [← zeros32]
    exact (Below.heap_alloc _ _ _ (by simp)).trans (heap_alloc_new w _)
  have hcv : ∀ (s : ByteArray) (wx : World), (convert 9 22 (.string s)).run Tryz.prog wx = .ok (.slice (some ⟨wx.heap.size, 0, none⟩) s.size (grownCap wx s.size 0 5)) (Lib.bytesWorld wx 5 s) := fun s wx => Lib.run_convert_string_bytes (P := Tryz.prog) wx 9 22 5 s Tryz.underlying9 Tryz.underlying22 Tryz.underlying5
  have HDG : Hid (∀ (g c : Nat) (wx : World), Bts wx g s → Below w.heap.size w wx → Calls Tryz.prog 20 #[.slice (some ⟨g, 0, none⟩) s.size c] wx fun e w' => e = .returned (.string (dgs s)) ∧ Below wx.heap.size wx w') := fun g c wx h hx => sha.impl_digest g 0 s.size c s.data.toList wx (sl_bts h (by unfold maxLen; omega)) (by omega) (hK.below hx)
  have hds : (dgs s).size = 32 := dg_size _
  have hki : (k : Int) ≤ 32 := by omega
  have hexs : ((dgs s).extract 0 k).size = k := by rw [ByteArray.size_extract]; omega
  have HEX : Hid (((dgs s).extract 0 k).data.toList = (dgs s).data.toList.take k) := by show _ = _; rw [ByteArray.data_extract, Array.toList_extract]; simp
  have HDL := Hid.mk' (dgs_length s)
  generalize dgs s = D at *
  have hdr : Below w2.heap.size w2 w2.drew := (Below.refl _ _).drew
  have hB3 := hB2.trans (hdr.mono hB2.size)
  clear hK
  go_enter Tryz.func69, Tryz.ntmps69
  iterate 17 go_step
  rw [← hw2]
  clear hw2
  refine wpList_store_mid rfl 96 (.tmp 5) (.tmp 6) rfl (w.heap.size + 1) 0 _ rfl rfl (hA2.there _ rfl) infoArr (by rw [zeros32]; exact one_cells _) ?_
  have hA3 : ArrB (w2.setCells (w.heap.size + 1) 0 (#[.int .u8 0, .int .u8 0, .int .u8 0, .int .u8 0, .int .u8 0, .int .u8 0, .int .u8 0, .int .u8 0, .int .u8 0, .int .u8 0, .int .u8 0, .int .u8 0, .int .u8 0, .int .u8 0, .int .u8 0, .int .u8 0, .int .u8 0, .int .u8 0, .int .u8 0, .int .u8 0, .int .u8 0, .int .u8 0, .int .u8 0, .int .u8 0, .int .u8 0, .int .u8 0, .int .u8 0, .int .u8 0, .int .u8 0, .int .u8 0, .int .u8 0, .int .u8 0] : Array Value).toList) (w.heap.size + 1) (List.replicate 32 0) := by
    unfold ArrB at hA2 ⊢
    rw [← zeros32] at hA2 ⊢
    rw [heap_setCells _ 0 w2 _ hA2, setAll_zeros]
  have hR3 : ArrB (w2.setCells (w.heap.size + 1) 0 (#[.int .u8 0, .int .u8 0, .int .u8 0, .int .u8 0, .int .u8 0, .int .u8 0, .int .u8 0, .int .u8 0, .int .u8 0, .int .u8 0, .int .u8 0, .int .u8 0, .int .u8 0, .int .u8 0, .int .u8 0, .int .u8 0, .int .u8 0, .int .u8 0, .int .u8 0, .int .u8 0, .int .u8 0, .int .u8 0, .int .u8 0, .int .u8 0, .int .u8 0, .int .u8 0, .int .u8 0, .int .u8 0, .int .u8 0, .int .u8 0, .int .u8 0, .int .u8 0] : Array Value).toList) w.heap.size (List.replicate 32 0) := by
    unfold ArrB at hR2 ⊢
    rw [heap_setCells_other (by omega)]; exact hR2
  have hB3' := below_setCells (b := w.heap.size + 1) (Nat.le_succ _) (#[.int .u8 0, .int .u8 0, .int .u8 0, .int .u8 0, .int .u8 0, .int .u8 0, .int .u8 0, .int .u8 0, .int .u8 0, .int .u8 0, .int .u8 0, .int .u8 0, .int .u8 0, .int .u8 0, .int .u8 0, .int .u8 0, .int .u8 0, .int .u8 0, .int .u8 0, .int .u8 0, .int .u8 0, .int .u8 0, .int .u8 0, .int .u8 0, .int .u8 0, .int .u8 0, .int .u8 0, .int .u8 0, .int .u8 0, .int .u8 0, .int .u8 0, .int .u8 0] : Array Value).toList 0 w2 hB2
  generalize w2.setCells (w.heap.size + 1) 0 (#[.int .u8 0, .int .u8 0, .int .u8 0, .int .u8 0, .int .u8 0, .int .u8 0, .int .u8 0, .int .u8 0, .int .u8 0, .int .u8 0, .int .u8 0, .int .u8 0, .int .u8 0, .int .u8 0, .int .u8 0, .int .u8 0, .int .u8 0, .int .u8 0, .int .u8 0, .int .u8 0, .int .u8 0, .int .u8 0, .int .u8 0, .int .u8 0, .int .u8 0, .int .u8 0, .int .u8 0, .int .u8 0, .int .u8 0, .int .u8 0, .int .u8 0, .int .u8 0] : Array Value).toList = w3 at *
  clear hA2 hR2 hB2 hB3 hdr
  have hdr : Below w3.heap.size w3 w3.drew := (Below.refl _ _).drew
  have hB3 := hB3'.trans (hdr.mono hB3'.size)
  clear hB3'
  have hA4 := hA3.below (hdr.trans ((below_bytesWorld w3.drew 5 s).mono hdr.size))
  have hR4 := hR3.below (hdr.trans ((below_bytesWorld w3.drew 5 s).mono hdr.size))
  have hB4 := keepConv 5 s hB3
  have hbt : Bts (Lib.bytesWorld w3.drew 5 s) w3.heap.size s := bts_new w3.drew s
  have HA4 := Hid.mk' hA4
  have HR4 := Hid.mk' hR4
  clear hA3 hR3 hA4 hR4
  generalize (Value.agg #[.int .u8 0, .int .u8 0, .int .u8 0, .int .u8 0, .int .u8 0, .int .u8 0, .int .u8 0, .int .u8 0, .int .u8 0, .int .u8 0, .int .u8 0, .int .u8 0, .int .u8 0, .int .u8 0, .int .u8 0, .int .u8 0, .int .u8 0, .int .u8 0, .int .u8 0, .int .u8 0, .int .u8 0, .int .u8 0, .int .u8 0, .int .u8 0, .int .u8 0, .int .u8 0, .int .u8 0, .int .u8 0, .int .u8 0, .int .u8 0, .int .u8 0, .int .u8 0]) = vz
  go_wp2_with fail
  go_region_held_law (fun w' => Below w.heap.size w w') (first | with_reducible exact hB3 | with_reducible assumption | with_reducible exact hB4 | (refine keepCopy hgr6 ?_; with_reducible assumption) | (refine keepCall hbD ?_; with_reducible assumption)) (first | (go_at_call 20; refine (HDG.out _ _ _ hbt hB4).mono ?_; rintro e wD ⟨rfl, hbD⟩) | (refine step_copy_str rfl (.tmp 7) (.tmp 12) 22 9 5 rfl Tryz.underlying22 infoB (w.heap.size + 1) 32 32 (D.extract 0 k) _ 96 rfl rfl (HA4.out.below hbD) (by rw [hexs]; exact hk) (by rw [hexs]; simpa using hk) ?_; intro w6 hA6 hgr6))
  have hHB : Below w.heap.size w w6 := by assumption
  have hA7 := pad_cells (D := D.data.toList) hexs HEX.out hA6
  have hR7 := (HR4.out.below hbD).grown hgr6 (by simp)
  have hpl := pad32_length k D.data.toList hk HDL.out
  obtain ⟨pb, hpb⟩ : ∃ pb, pad32 k D.data.toList = pb := ⟨_, rfl⟩
  rw [hpb] at hA7 hpl
  have HPB := Hid.mk' hpb
  clear hpb
  have hpz : (pb.map Extern.Stop.cell).length = 32 := by rw [List.length_map]; exact hpl
  clear hA6 hgr6 HA4 HR4 hbD hB4 hB3 hbt HDG hcv
  iterate 4 go_step
  refine wpList_load_mid rfl 96 (.tmp 5) rfl (w.heap.size + 1) 0 rfl _ (.array 32 5) hA7.range Tryz.underlying96 rfl (by rw [hpz]; exact infoArr) ?_
  refine wpList_store_mid rfl 96 (.tmp 4) (.tmp 14) rfl w.heap.size 0 _ rfl rfl (hR7.there _ (by simp [hpl])) (by simp only [List.size_toArray, hpz]; exact infoArr) (one_cells _) ?_
  have hth := hR7.there 32 (by simp)
  have hrg := World.rangeAt_setCells_same w6 w.heap.size 0 (pb.map Extern.Stop.cell) (by rw [hpz]; exact hth)
  have hBz := below_setCells (b := w.heap.size) (Nat.le_refl _) (pb.map Extern.Stop.cell) 0 w6 hHB
  simp only [List.toList_toArray]
  generalize w6.setCells w.heap.size 0 (pb.map Extern.Stop.cell) = w8 at *
  go_wp2_with fail
  refine bodyPost_ret (v := .agg (pb.map Extern.Stop.cell).toArray) ?h1 rfl ⟨by rw [HPB.out], hBz⟩
  have hlv := run_loadVar_mid (P := Tryz.prog) w8 w.heap.size 0 96 (pb.map Extern.Stop.cell) (.array 32 5) hrg Tryz.underlying96 rfl (by rw [hpz]; exact infoArr)
  simp [results, Tryz.results69, Act.put, asAddr, hlv]
theorem szB : ∀ w, (sizeOf 5).run Tryz.prog w = .ok 1 w := fun w => by kernel_rfl
theorem impl_isClash (a b : ByteArray) (k : Int) (w : World) (ha : a.size ≤ 1099511627776) (hb : b.size ≤ 1099511627776) (hK : sha.KW w) :
    Calls Tryz.prog 37 #[.string a, .string b, .int .i64 k] w fun e w' => e = .returned (.bool (isClash a b k)) ∧ Below w.heap.size w w' := by
  by_cases hk0 : k < 0
  · have HR : Hid (isClash a b k = false) := by show _ = _; unfold isClash; rw [decide_eq_false (by omega)]; rfl
    go_enter Tryz.func37, Tryz.ntmps37
    go_wp2_with fail
    go_ret
    exact ⟨ret_bool (by rw [HR.out]), Below.refl _ _⟩
  by_cases hk32 : 32 < k
  · have HR : Hid (isClash a b k = false) := by show _ = _; unfold isClash; rw [decide_eq_false (by omega)]; rfl
    go_enter Tryz.func37, Tryz.ntmps37
    go_wp2_with fail
    go_ret
    exact ⟨ret_bool (by rw [HR.out]), Below.refl _ _⟩
  by_cases hab : a = b
  · have HR : Hid (isClash a b k = false) := by show _ = _; rw [hab]; exact isClash_self b k
    subst hab
    have hne : (a.toList == a.toList) = true := beq_self_eq_true _
    go_enter Tryz.func37, Tryz.ntmps37
    go_wp2_with fail
    go_ret
    exact ⟨ret_bool (by rw [HR.out]), Below.refl _ _⟩
  obtain ⟨n, hn⟩ : ∃ n : Nat, k = (n : Int) := ⟨k.toNat, by omega⟩
  subst hn
  have hn32 : n ≤ 32 := by omega
  have HR : Hid (isClash a b (n : Int) = decide ((dgs a).data.toList.take n = (dgs b).data.toList.take n)) := by
    show _ = _; unfold isClash; rw [decide_eq_true (by omega), decide_eq_true hab, Int.toNat_natCast]; rfl
  have hne : (a.toList == b.toList) = false := beq_eq_false_iff_ne.2 (fun e => hab (bytes_ext (by rw [← ByteArray.toList_eq, ← ByteArray.toList_eq]; exact e)))
  have H1 := Hid.mk' (impl_firstBytes a n w hn32 ha hK)
  have H2 : Hid (∀ wx, Below w.heap.size w wx → Calls Tryz.prog 69 #[.string b, .int .i64 (n : Int)] wx fun e w' => e = .returned (.agg ((pad32 n (dgs b).data.toList).map Extern.Stop.cell).toArray) ∧ Below wx.heap.size wx w') := fun wx hx => impl_firstBytes b n wx hn32 hb (hK.below hx)
  have hx := pad32_length n _ hn32 (dgs_length a)
  have hy := pad32_length n _ hn32 (dgs_length b)
  have HE := Hid.mk' (pad32_eq n _ _ (dgs_length a) (dgs_length b))
  have heq : ∀ wx : World, (binOp .eql 96 (.agg ((pad32 n (dgs a).data.toList).map Extern.Stop.cell).toArray) (.agg ((pad32 n (dgs b).data.toList).map Extern.Stop.cell).toArray)).run Tryz.prog wx = .ok (.bool (pad32 n (dgs a).data.toList == pad32 n (dgs b).data.toList)) wx :=
    fun wx => run_eql_bytes wx 96 5 32 Tryz.underlying96 Tryz.underlying5 szB _ _ hx hy
  generalize ((pad32 n (dgs a).data.toList).map Extern.Stop.cell).toArray = xa at *
  generalize ((pad32 n (dgs b).data.toList).map Extern.Stop.cell).toArray = xb at *
  clear hK hab
  go_enter Tryz.func37, Tryz.ntmps37
  go_wp2_with fail
  refine H1.out.mono ?_
  rintro e w1 ⟨rfl, hb1⟩
  go_wp2_with fail
  refine (H2.out _ hb1).mono ?_
  rintro e w2 ⟨rfl, hb2⟩
  have hB2 := hb1.trans (hb2.mono hb1.size)
  go_wp2_with fail
  go_ret
  exact ⟨ret_bool (by rw [HR.out]; exact HE.out), hB2⟩
end Go.Proofs.YtdebbgodhpcijaaGreatDoor.clash
