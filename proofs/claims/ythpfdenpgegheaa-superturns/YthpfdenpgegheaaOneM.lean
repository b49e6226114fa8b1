/-
  The laws' small play.
-/
import Derived.Test.YthpfdenpgegheaaOpenS
import Derived.Test.YthpfdenpgegheaaCoverS
import Derived.Lib.SlBytesConst
namespace Go.Proofs.Ythpfdenpgegheaa
open Go.RowKit

theorem const_lies (w : World) (l : List UInt8) : Lies (w.alloc (.cells (bc l).toArray 5 (l.length, l.length + 1))) (fun _ => True) (some ⟨w.heap.size, 0, none⟩) l.length l.length (bc l) :=
  ⟨bc_length l, Nat.le_refl _, fun _ => ⟨_, rfl, trivial, by simp, fun j u hu => by
    rw [Addr.add_mid, World.cell?_alloc_mark, Nat.zero_add, List.getElem?_toArray]
    exact hu⟩⟩
def m1 : Mk := ⟨1, 2, 3, by omega, by omega⟩
theorem one_bytes : (bc (sealed m1 [97, 98]))[18]? = some (.int .u8 2) ∧ (bc (sealed m1 [97, 98]))[19]? = some (.int .u8 97) ∧ (bc (sealed m1 [97, 98]))[255]? = some (.int .u8 3) := by
  refine ⟨?_, ?_, ?_⟩ <;> kernel_rfl
set_option maxRecDepth 100000 in
set_option maxHeartbeats 4000000 in
theorem one_says (w : World) : Calls Try.prog 12 #[] w fun e w' => e = .returned (.bool true) ∧ Below w.heap.size w w' := by
  obtain ⟨i0, hi, hz0, hz1, hz2⟩ := info_parts Try.byteInfo
  obtain ⟨w1, hw1⟩ : ∃ w1, w.alloc (.cells #[.int .u8 0, .int .u64 0, .int .u64 0] 25) = w1 := ⟨_, rfl⟩
  have hb1 : Below w.heap.size w w1 := by rw [← hw1]; exact (Below.refl _ w).alloc (Nat.le_refl _) _
  have hm1 : Box w1 w.heap.size 25 (mv Mk.zero) := by rw [← hw1]; exact Box.made w _ _
  obtain ⟨w2, hw2⟩ : ∃ w2, w1.setRow w.heap.size (mv m1) = w2 := ⟨_, rfl⟩
  have hm2 : Box w2 w.heap.size 25 (mv m1) := by rw [← hw2]; exact setRow_heap _ _ _ _ _ _ hm1
  have hb2 : Below w.heap.size w w2 := hb1.trans (by rw [← hw2]; exact (Below.refl _ w1).grown (grown_row (grown_refl _ (some w.heap.size)) _) hb1.size (fun k e => by injection e with e; omega))
  obtain ⟨w3, hw3⟩ : ∃ x, w2.alloc (.cells #[.int .u8 97, .int .u8 98] 5 (2, 3)) = x := ⟨_, rfl⟩
  have hb3 : Below w2.heap.size w2 w3 := by rw [← hw3]; exact (Below.refl _ w2).alloc (Nat.le_refl _) _
  have hl3 : Lies w3 (fun _ => True) (some ⟨w2.heap.size, 0, none⟩) 2 2 (bc [97, 98]) := by rw [← hw3]; exact const_lies w2 [97, 98]
  have hcv := fun (w : World) (C : Array Value) (n c : Nat) => Lib.run_convert_bytes_const (P := Try.prog) w 22 5 C n c Try.underlying22 Try.underlying5
  have HM := Lib.hid hm1
  have HW := Lib.hid hw2
  have HM2 := Lib.hid hm2
  have H3 := Lib.hid (And.intro (hb2.trans (hb3.mono hb2.size)) (And.intro (Box.below hm2 hb3 hm2.lt) hl3))
  clear hb1 hm1 hw2 hm2 hb2 hb3 hl3
  go_enter Try.func12, Try.ntmps12
  go_wp2_with (first
    | (refine wpList_store_row rfl 25 _ _ rfl w.heap.size (mv m1) rfl rfl 25 _ HM.out (by rw [mv_size]; exact mkInfo) rfl (mv_one _) ?_; rw [HW.out])
    | (refine wpList_load_row rfl 25 _ rfl w.heap.size rfl 25 _ (0, 0) _ HM2.out Try.underlying25 rfl (by rw [mv_size]; exact mkInfo) ?_))
  refine (seal_yes w3 m1 rfl _ 2 2 [97, 98] H3.out.2.2 (by omega)).mono ?_
  rintro e w4 ⟨g, rfl, hg, hx4, hb4⟩
  have H4 := Lib.hid (And.intro (H3.out.1.trans (hb4.mono H3.out.1.size)) (And.intro (Box.below H3.out.2.1 hb4 H3.out.2.1.lt) hx4))
  have hl4 := lies_box (N := fun _ => True) hx4 trivial (sealed_length m1 [97, 98] (by decide))
  clear hg hx4 hb4 H3 hw3 hw1 HM HW HM2 hcv
  go_wp2_with fail
  refine (open_says w4 _ 256 _ hl4).mono ?_
  rintro e w5 ⟨_, hy, hb5⟩
  obtain ⟨gs, rfl, hgs, hx5⟩ := hy m1 [97, 98] (opens_sealed m1 [97, 98] (by decide) rfl)
  have hx5 : Box w5 gs 5 (bc [97, 98]).toArray := hx5
  obtain ⟨w6, hw6⟩ : ∃ x, w5.alloc (.cells #[.int .u8 0, .int .u64 0, .int .u64 0] 25) = x := ⟨_, rfl⟩
  have hb6 : Below w5.heap.size w5 w6 := by rw [← hw6]; exact (Below.refl _ w5).alloc (Nat.le_refl _) _
  have hm6 : Box w6 w5.heap.size 25 (mv Mk.zero) := by rw [← hw6]; exact Box.made w5 _ _
  obtain ⟨w7, hw7⟩ : ∃ x, w6.setRow w5.heap.size (mv m1) = x := ⟨_, rfl⟩
  have hm7 : Box w7 w5.heap.size 25 (mv m1) := by rw [← hw7]; exact setRow_heap _ _ _ _ _ _ hm6
  have hb7 : Below w5.heap.size w5 w7 := hb6.trans (by rw [← hw7]; exact (Below.refl _ w6).grown (grown_row (grown_refl _ (some w5.heap.size)) _) hb6.size (fun k e => by injection e with e; omega))
  have hbz := hb5.trans (hb7.mono hb5.size)
  have hcs := conv_lies (lies_box (N := fun _ => True) (Box.below hx5 hb7 hx5.lt) trivial (n := 2) rfl)
  have hxb := Box.below H4.out.2.2 hbz H4.out.2.2.lt
  have hxm := Box.below H4.out.2.1 hbz H4.out.2.1.lt
  have c18 : w7.cell? ⟨g, 18, none⟩ = some (.int .u8 2) := (Box.cell hxb 18).trans (by simpa using one_bytes.1)
  have c19 : w7.cell? ⟨g, 19, none⟩ = some (.int .u8 97) := (Box.cell hxb 19).trans (by simpa using one_bytes.2.1)
  have c255 : w7.cell? ⟨g, 255, none⟩ = some (.int .u8 3) := (Box.cell hxb 255).trans (by simpa using one_bytes.2.2)
  have a0 : w7.cell? ⟨w.heap.size, 0, none⟩ = some (.int .u8 1) := (Box.cell hxm 0).trans rfl
  have a1 : w7.cell? ⟨w.heap.size, 1, none⟩ = some (.int .u64 2) := (Box.cell hxm 1).trans rfl
  have a2 : w7.cell? ⟨w.heap.size, 2, none⟩ = some (.int .u64 3) := (Box.cell hxm 2).trans rfl
  have x0 : w7.cell? ⟨w5.heap.size, 0, none⟩ = some (.int .u8 1) := (Box.cell hm7 0).trans rfl
  have x1 : w7.cell? ⟨w5.heap.size, 1, none⟩ = some (.int .u64 2) := (Box.cell hm7 1).trans rfl
  have x2 : w7.cell? ⟨w5.heap.size, 2, none⟩ = some (.int .u64 3) := (Box.cell hm7 2).trans rfl
  have HM6 := Lib.hid hm6
  have HW7 := Lib.hid hw7
  have HB := Lib.hid (H4.out.1.trans (hbz.mono H4.out.1.size))
  clear hl4 hgs hx5 hb5 hb6 hm6 hw7 hm7 hb7 hbz hxb hxm H4 hy
  go_wp2_with (refine wpList_store_row rfl 25 _ _ rfl w5.heap.size (mv m1) rfl rfl 25 _ HM6.out (by rw [mv_size]; exact mkInfo) rfl (mv_one _) ?_; rw [HW7.out])
  go_ret
  exact ⟨rfl, HB.out⟩
end Go.Proofs.Ythpfdenpgegheaa
