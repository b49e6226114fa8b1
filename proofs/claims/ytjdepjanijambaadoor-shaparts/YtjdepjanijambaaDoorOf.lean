/-
  The contract of Of, and the law's small play: the sum of "abc".
-/
import Derived.Test.YtjdepjanijambaaDoorSum
import Derived.Lib.SlBytesConst
import Derived.Lib.SmallJoins
namespace Go.Proofs.YtjdepjanijambaaDoor
open Go.RowKit

theorem hsh_new {w : World} : Hsh (w.alloc (.cells (hcells First noughts 0).toArray 49)) w.heap.size [] := ⟨noughts, Box.made _ _ _, fun i hi => absurd hi (by simp)⟩

set_option maxRecDepth 100000 in
set_option maxHeartbeats 1000000 in
theorem of_any (A : Option Addr) (n c : Nat) (l : List UInt8) (w : World) (hl : Lies w (fun _ => True) A n c (bc l)) (ht : Tabs w) (hz : l.length < 576460752303423488) : Calls Tryd.prog 15 #[.slice A n c] w (SumPost w l) := by
  have hbt := ht.two
  have HL := Lib.hid hl
  have HT := Lib.hid ht
  clear hl ht
  go_enter Tryd.func15, Tryd.ntmps15
  go_wp2_with fail
  rw [← zeros32]
  have HLa := Lib.hid (HL.out.below (below1 w (.cells (u8s noughts 32).toArray 41)))
  have HTa := Lib.hid (HT.out.below (below1 w (.cells (u8s noughts 32).toArray 41)) hbt)
  have HRa := Lib.hid (Box.made w 41 (u8s noughts 32).toArray)
  have HBa := Lib.hid (below1 w (.cells (u8s noughts 32).toArray 41))
  have hza : (w.alloc (.cells (u8s noughts 32).toArray 41)).heap.size = w.heap.size + 1 := by simp
  generalize w.alloc (.cells (u8s noughts 32).toArray 41) = wa at HLa HTa HRa HBa hza ⊢
  have HZA := Lib.hid hza
  clear HL HT hza
  refine (new_any wa HTa.out).mono ?_
  rintro e w1 ⟨rfl, hw1⟩
  have HH1 := Lib.hid (hsh_new (w := wa))
  have HB1 := Lib.hid (below1 wa (.cells (hcells First noughts 0).toArray 49))
  rw [hw1] at HH1 HB1
  rw [HZA.out] at HH1 HB1 ⊢
  clear hw1
  go_wp2_with fail
  have hz1 := HB1.out.size
  rw [HZA.out] at hz1
  have HL1 := Lib.hid ((HLa.out.weak (N' := (· ≠ w.heap.size + 1)) (fun b hb _ => by rw [HZA.out] at hb; omega)).below (by rw [HZA.out]; exact HB1.out))
  have HT1 := Lib.hid (HTa.out.below HB1.out (by omega))
  refine (take_any (w.heap.size + 1) [] l _ _ _ w1 HH1.out HL1.out HT1.out (by omega) (by simp; omega)).mono ?_
  rintro e w2 ⟨rfl, hh2, hg2⟩
  rw [List.nil_append] at hh2
  have HH2 := Lib.hid hh2
  have HT2 := Lib.hid (HT1.out.grown hg2 (by omega))
  have HB2 := Lib.hid (below_grown (HBa.out.trans (HB1.out.mono (by omega))) hg2 (by omega) (by omega))
  have HR2 := Lib.hid ((HRa.out.below HB1.out (by omega)).grown hg2 (by intro e; injection e with e; omega))
  have hz2 := hg2.size
  clear hh2 hg2 HL1 HT1 HH1 HB1 HLa HTa HRa HBa HZA
  go_wp2_with fail
  refine (sum_made (w.heap.size + 1) l w2 HH2.out HT2.out hz).mono ?_
  rintro e w3 ⟨rfl, hb3⟩
  have HB3 := Lib.hid hb3
  clear hb3
  go_wp2_with (refine wpList_store_row rfl 41 _ _ rfl w.heap.size (sum32 l) rfl rfl 41 _ (HR2.out.below HB3.out (by omega)) (infoSums _) (by simp [sum32, u8s_length]) (u8s_one _ _) ?_)
  refine bodyPost_ret (v := .agg (sum32 l)) (results_cell_row (P := Tryd.prog) (p := 2) (ty := 41) Tryd.results15 _ _ w.heap.size 41 _ (0, 0) _ rfl (setRow_heap _ _ _ _ _ _ (HR2.out.below HB3.out (by omega))) Tryd.underlying41 rfl (infoSums _)) rfl ⟨rfl, ?_⟩
  exact below_setRow (HB2.out.trans (HB3.out.mono (by omega))) (Nat.le_refl _) _

/-- The sum of "abc", as far as the law asks. -/
theorem abc_sum : (sumB (shaS [97, 98, 99]) 0, sumB (shaS [97, 98, 99]) 1, sumB (shaS [97, 98, 99]) 2, sumB (shaS [97, 98, 99]) 3, sumB (shaS [97, 98, 99]) 30, sumB (shaS [97, 98, 99]) 31) = (186, 120, 22, 191, 21, 173) := by decide +kernel

/-- A constant text as bytes, as the translation lays it. -/
theorem const_lies (w : World) (l : List UInt8) : Lies (w.alloc (.cells (bc l).toArray 5 (l.length, l.length + 1))) (fun _ => True) (some ⟨w.heap.size, 0, none⟩) l.length l.length (bc l) := by
  refine ⟨bc_length l, Nat.le_refl _, fun _ => ⟨_, rfl, trivial, by simp, fun j u hu => ?_⟩⟩
  rw [Addr.add_mid, World.cell?_alloc_mark, Nat.zero_add, List.getElem?_toArray]
  exact hu
theorem abc_lies (w : World) : Lies (w.alloc (.cells #[Value.int .u8 97, .int .u8 98, .int .u8 99] 5 (3, 4))) (fun _ => True) (some ⟨w.heap.size, 0, none⟩) 3 3 (bc [97, 98, 99]) := const_lies w [97, 98, 99]
theorem one_any (w : World) (ht : Tabs w) : Calls Tryd.prog 10 #[] w fun e w' => e = .returned (.bool true) ∧ Below w.heap.size w w' := by
  have hbt := ht.two
  have HT := Lib.hid ht
  clear ht
  have hcv := fun (w : World) (C : Array Value) (n c : Nat) => Lib.run_convert_bytes_const (P := Tryd.prog) w 32 5 C n c Tryd.underlying32 Tryd.underlying5
  go_enter Tryd.func10, Tryd.ntmps10
  go_wp2_with fail
  clear hcv
  have HT1 := Lib.hid (HT.out.below (below1 w (.cells #[Value.int .u8 97, .int .u8 98, .int .u8 99] 5 (3, 4))) hbt)
  have HL1 := Lib.hid (abc_lies w)
  have HB1 := Lib.hid (below1 w (.cells #[Value.int .u8 97, .int .u8 98, .int .u8 99] 5 (3, 4)))
  generalize w.alloc (.cells #[Value.int .u8 97, .int .u8 98, .int .u8 99] 5 (3, 4)) = w1 at HT1 HL1 HB1 ⊢
  refine (of_any _ _ _ [97, 98, 99] w1 HL1.out HT1.out (by decide)).mono ?_
  rintro e w2 ⟨rfl, hb2⟩
  have HB2 := Lib.hid hb2
  clear hb2
  have habc := abc_sum
  simp only [Prod.mk.injEq] at habc
  have hbx := Box.made w2 41 (sum32 [97, 98, 99])
  have c0 := (hbx.cell 0).trans (u8s_get _ 32 0 (by decide))
  have c1 := (hbx.cell 1).trans (u8s_get _ 32 1 (by decide))
  have c2 := (hbx.cell 2).trans (u8s_get _ 32 2 (by decide))
  have c3 := (hbx.cell 3).trans (u8s_get _ 32 3 (by decide))
  have c4 := (hbx.cell 30).trans (u8s_get _ 32 30 (by decide))
  have c5 := (hbx.cell 31).trans (u8s_get _ 32 31 (by decide))
  rw [habc.1] at c0
  rw [habc.2.1] at c1
  rw [habc.2.2.1] at c2
  rw [habc.2.2.2.1] at c3
  rw [habc.2.2.2.2.1] at c4
  rw [habc.2.2.2.2.2] at c5
  have HB3 := Lib.hid (show Below w.heap.size w (w2.alloc (.cells (sum32 [97, 98, 99]) 41)) from (HB1.out.trans (HB2.out.mono HB1.out.size)).alloc (Nat.le_trans HB1.out.size HB2.out.size) _)
  clear habc hbx
  go_wp2_with ((refine wpList_store_row rfl 41 _ _ rfl w2.heap.size (sum32 [97, 98, 99]) rfl rfl 41 _ (heap_alloc_new w2 _) (infoSums _) (by simp [sum32, u8s_length]) (u8s_one _ _) ?_); (rw [World.setRow_alloc_new]))
  go_ret
  exact ⟨rfl, HB3.out⟩
end Go.Proofs.YtjdepjanijambaaDoor
