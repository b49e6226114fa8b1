/-
  The law ShaConsts, walked.
-/
import Derived.Test.YtjdepjanijambaaDoorRefConsts
import Derived.Test.YtjdepjanijambaaDoorOf
namespace Go.Proofs.YtjdepjanijambaaDoor
open Go.RowKit

set_option maxRecDepth 100000 in
theorem rounds_any (w : World) (ht : Tabs w) : Calls Tryd.prog 7 #[] w fun e w' => e = .returned (.agg (u32s Kat 64).toArray) ∧ Below w.heap.size w w' := by
  have hbt := ht.two
  have HT := Lib.hid ht
  clear ht
  go_enter Tryd.func7, Tryd.ntmps7
  go_wp2_with (first | (refine wpList_load_mid rfl 23 _ rfl 0 0 rfl (u32s Kat 64) _ (HT.out.below (below1 w _) hbt).1 Tryd.underlying23 rfl (by rw [u32s_length]; exact info64) ?_) | (refine wpList_store_row rfl 23 _ _ rfl w.heap.size (u32s Kat 64).toArray rfl rfl 23 _ (heap_alloc_new w _) (by rw [List.size_toArray, u32s_length]; exact info64) (by simp [u32s_length]) (u32s_one _ _) ?_))
  exact bodyPost_ret (v := .agg (u32s Kat 64).toArray) (results_cell_row (P := Tryd.prog) (p := 0) (ty := 23) Tryd.results7 _ _ w.heap.size 23 _ (0, 0) _ rfl (setRow_heap _ _ _ _ _ _ (heap_alloc_new w _)) Tryd.underlying23 rfl (by rw [List.size_toArray, u32s_length]; exact info64)) rfl ⟨rfl, below_setRow (below1 w _) (Nat.le_refl _) _⟩
set_option maxRecDepth 100000 in
theorem first_any (w : World) (ht : Tabs w) : Calls Tryd.prog 8 #[] w fun e w' => e = .returned (.agg (s8s First).toArray) ∧ Below w.heap.size w w' := by
  have hbt := ht.two
  have HT := Lib.hid ht
  clear ht
  go_enter Tryd.func8, Tryd.ntmps8
  go_wp2_with (first | (refine wpList_load_mid rfl 25 _ rfl 1 0 rfl (s8s First) _ (HT.out.below (below1 w _) hbt).2 Tryd.underlying25 rfl (info8s First) ?_) | (refine wpList_store_row rfl 25 _ _ rfl w.heap.size (s8s First).toArray rfl rfl 25 _ (heap_alloc_new w _) (info8s First) rfl (s8s_one _) ?_))
  exact bodyPost_ret (v := .agg (s8s First).toArray) (results_cell_row (P := Tryd.prog) (p := 0) (ty := 25) Tryd.results8 _ _ w.heap.size 25 _ (0, 0) _ rfl (setRow_heap _ _ _ _ _ _ (heap_alloc_new w _)) Tryd.underlying25 rfl (info8s First)) rfl ⟨rfl, below_setRow (below1 w _) (Nat.le_refl _) _⟩

theorem and_small (t : Int) (m : Nat) (hm : m < 64) : ∃ k : Nat, k ≤ m ∧ bits .and .i64 t (m : Int) = (k : Int) := by
  refine ⟨(BitVec.ofInt 64 t &&& BitVec.ofInt 64 (m : Int)).toNat, ?_, ?_⟩
  · rw [BitVec.toNat_and]
    have : (BitVec.ofInt 64 (m : Int)).toNat = m := by rw [BitVec.toNat_ofInt]; omega
    rw [this]
    exact Nat.and_le_right
  · have hle : (BitVec.ofInt 64 t &&& BitVec.ofInt 64 (m : Int)).toNat ≤ m := by
      rw [BitVec.toNat_and]
      have : (BitVec.ofInt 64 (m : Int)).toNat = m := by rw [BitVec.toNat_ofInt]; omega
      rw [this]
      exact Nat.and_le_right
    show IntKind.i64.wrap (((BitVec.ofInt 64 t &&& BitVec.ofInt 64 (m : Int)).toNat : Nat) : Int) = _
    exact IntWalk.i64_in _ (by omega)
theorem first_get (k : Nat) (h : k < 8) : (s8s First).toArray[k]? = some (.int .u32 ((First.list.getD k 0 : Nat) : Int)) := by
  have hc : k = 0 ∨ k = 1 ∨ k = 2 ∨ k = 3 ∨ k = 4 ∨ k = 5 ∨ k = 6 ∨ k = 7 := by omega
  rcases hc with rfl | rfl | rfl | rfl | rfl | rfl | rfl | rfl <;> rfl

section
variable (w : World) (c c' K F : Array Value) (t t' : TypeId)
theorem size_alloc' (w : World) (o : Obj) : (w.alloc o).heap.size = w.heap.size + 1 := by simp
theorem rows_mid : (((w.alloc (.cells c t)).alloc (.cells c' t')).setRow w.heap.size K).heap[w.heap.size + 1]? = some (.cells c' t' (0, 0)) :=
  (setRow_other _ _ _ _ (by omega)).trans (box1 w _ _ _)
theorem rows_one : Box ((((w.alloc (.cells c t)).alloc (.cells c' t')).setRow w.heap.size K).setRow (w.heap.size + 1) F) w.heap.size t K :=
  (setRow_other _ _ _ _ (by omega)).trans (setRow_heap _ _ _ _ _ _ ((Box.made w _ _).alloc _))
theorem rows_two : Box ((((w.alloc (.cells c t)).alloc (.cells c' t')).setRow w.heap.size K).setRow (w.heap.size + 1) F) (w.heap.size + 1) t' F :=
  setRow_heap _ _ _ _ _ _ (rows_mid w c c' K t t')
theorem rows_below : Below w.heap.size w ((((w.alloc (.cells c t)).alloc (.cells c' t')).setRow w.heap.size K).setRow (w.heap.size + 1) F) :=
  below_setRow (below_setRow (below2 w _ _) (Nat.le_refl _) _) (by omega) _
end

set_option maxRecDepth 100000 in
set_option maxHeartbeats 1000000 in
theorem consts_walk (t : Int) (w : World) (ht : Tabs w) : Calls Tryd.prog 3 #[.int .i64 t] w fun e w' => e = .returned (.bool true) ∧ Below w.heap.size w w' := by
  have hbt := ht.two
  have HT := Lib.hid ht
  clear ht
  obtain ⟨k, hk, ek⟩ := and_small t 63 (by omega)
  obtain ⟨j, hj, ej⟩ := and_small (k : Int) 7 (by omega)
  have ek' : bits .and .i64 t 63 = (k : Int) := ek
  have ej' : bits .and .i64 (k : Int) 7 = (j : Int) := ej
  clear ek ej
  go_enter Tryd.func3, Tryd.ntmps3
  go_wp2_with fail
  refine (rounds_any w HT.out).mono ?_
  rintro e w1 ⟨rfl, hb1⟩
  have HT1 := Lib.hid (HT.out.below hb1 hbt)
  have HB1 := Lib.hid hb1
  clear hb1
  go_wp2_with fail
  refine (first_any w1 HT1.out).mono ?_
  rintro e w2 ⟨rfl, hb2⟩
  have HT2 := Lib.hid (HT1.out.below hb2 HT1.out.two)
  have HB2 := Lib.hid (HB1.out.trans (hb2.mono HB1.out.size))
  clear hb2 HT1 HB1
  go_wp2_with (first | (refine wpList_store_row rfl 23 _ _ rfl w2.heap.size (u32s Kat 64).toArray rfl rfl 23 _ ((Box.made w2 _ _).alloc _) (by rw [List.size_toArray, u32s_length]; exact info64) (by simp [u32s_length]) (u32s_one _ _) ?_) | (refine wpList_store_row rfl 25 _ _ rfl (w2.heap.size + 1) (s8s First).toArray rfl rfl 25 _ (rows_mid w2 _ _ _ _ _) (info8s First) rfl (s8s_one _) ?_))
  refine (all_any _).mono ?_
  rintro e w3 ⟨rfl, hb3⟩
  have hz3 := hb3.size
  simp only [size_setRow, size_alloc'] at hz3
  have HK := Lib.hid ((rows_one w2 _ _ _ _ _ _).below hb3 (by simp only [size_setRow, size_alloc']; omega))
  have HF := Lib.hid ((rows_two w2 _ _ _ _ _ _).below hb3 (by simp only [size_setRow, size_alloc']; omega))
  have HB3 := Lib.hid (HB2.out.trans (((rows_below w2 _ _ _ _ _ _).trans (hb3.mono (by simp only [size_setRow, size_alloc']; omega))).mono HB2.out.size))
  have HT3 := Lib.hid (HT2.out.below ((rows_below w2 _ _ _ _ _ _).trans (hb3.mono (by simp only [size_setRow, size_alloc']; omega))) HT2.out.two)
  clear hb3 HT2 HB2
  have hz := (zero_of_info zeroConsts).1
  go_wp2_with (refine wpList_store_row rfl 28 _ _ rfl w3.heap.size (u32s constV 72).toArray rfl rfl 28 _ (heap_alloc_new w3 _) (infoConsts _) (by simp [u32s_length]) (u32s_one _ _) ?_)
  rw [World.setRow_alloc_new]
  clear hz
  obtain ⟨x, hx⟩ : ∃ x : Nat, x = Kat k := ⟨_, rfl⟩
  obtain ⟨y, hy⟩ : ∃ y : Nat, y = First.list.getD j 0 := ⟨_, rfl⟩
  have ck := ((HK.out.alloc (.cells (u32s constV 72).toArray 28)).cell k).trans (u32s_get Kat 64 k (by omega))
  have cf := ((HF.out.alloc (.cells (u32s constV 72).toArray 28)).cell j).trans (first_get j (by omega))
  have dk := ((Box.made w3 28 (u32s constV 72).toArray).cell k).trans (u32s_get constV 72 k (by omega))
  have df := ((Box.made w3 28 (u32s constV 72).toArray).cell (64 + j)).trans (u32s_get constV 72 (64 + j) (by omega))
  rw [const_k k (by omega)] at dk
  rw [const_f j (by omega)] at df
  rw [← hx] at ck dk
  rw [← hy] at cf df
  have HB4 := Lib.hid (HB3.out.alloc HB3.out.size (.cells (u32s constV 72).toArray 28))
  have HT4 := Lib.hid (HT3.out.below (below1 w3 (.cells (u32s constV 72).toArray 28)) HT3.out.two)
  generalize w3.alloc (.cells (u32s constV 72).toArray 28) = w4 at ck cf dk df HB4 HT4 ⊢
  generalize w3.heap.size = g at dk df ⊢
  have l1 : (k : Int) < 64 := by omega
  have l2 : (j : Int) < 8 := by omega
  clear hx hy HK HF HB3 HT3 hz3
  go_still_tail 21, (by kernel_rfl)
  change wpList _ _ _ _ _ w4.drew
  go_wp2_with fail
  refine (one_any w4.drew (tabs_heap HT4.out rfl)).mono ?_
  rintro e w5 ⟨rfl, hb5⟩
  have HB5 := Lib.hid (HB4.out.drew.trans (hb5.mono HB4.out.size))
  clear hb5
  go_wp2_with fail
  go_ret
  exact ⟨rfl, HB5.out⟩
end Go.Proofs.YtjdepjanijambaaDoor
