/-
  The laws' small play.
-/
import Derived.Test.YthpfdenpgegheaaTurnsP
namespace Go.Proofs.Ythpfdenpgegheaa
open Go.RowKit

set_option linter.unusedVariables false
set_option linter.unusedSimpArgs false
/-- The head of the small play. -/
def h1one : Hd := ⟨1, 1, 0, 1, 5, by omega, by omega, by omega, by omega, by omega⟩
theorem one_right : h1one.rightB 10 = true := by rw [Hd.right_iff]; decide
theorem one_save : saveTo (Dv.new 10) h1one = (0, ((Dv.new 10).call.write 1 h1one.blk).call.flush) := by
  rw [saveTo, if_neg (by simp [Dv.call, Dv.new]), if_neg (by simp [Dv.call, Dv.write, Dv.new])]
  rfl
/-- The device of the small play. -/
def oneD : Dv := ((Dv.new 10).call.write 1 h1one.blk).call.flush
theorem one_last : lastN oneD 2 = h1one := by
  have h0 : oneD.blk 0 = default := rfl
  have h1 : oneD.blk 1 = h1one.blk := rfl
  have hl : (oneD.bs.length : Int) = 10 := rfl
  show pickH (pickH Hd.zero 0 (headOf (oneD.blk 0).1 (oneD.bs.length : Int))) 1 (headOf (oneD.blk 1).1 (oneD.bs.length : Int)) = h1one
  rw [h0, h1, hl, show headOf (default : Bk).1 10 = none from headOf_none opens_zero, show headOf h1one.blk.1 10 = some h1one from headOf_block h1one 10 one_right]
  rfl
set_option maxRecDepth 100000 in
set_option maxHeartbeats 8000000 in
theorem one9_says (w : World) : Calls Try.prog 22 #[] w fun e w' => e = .returned (.bool true) ∧ Below w.heap.size w w' := by
  have HNW := Lib.hid (new_yes w 10 (by omega) (by omega))
  go_enter Try.func22, Try.ntmps22
  go_wp2_with fail
  refine HNW.out.mono ?_
  rintro e w1 ⟨p, rfl, hd1, hb1⟩
  obtain ⟨w2, hw2⟩ : ∃ x, w1.alloc (.cells #[.int .u64 0, .int .u64 0, .int .i64 0, .int .u64 0, .int .i64 0] 43) = x := ⟨_, rfl⟩
  have hbw2 : Below w1.heap.size w1 w2 := by rw [← hw2]; exact (Below.refl _ w1).alloc (Nat.le_refl _) _
  have hmw2 : Box w2 w1.heap.size 43 (hv Hd.zero) := by rw [← hw2]; exact Box.made w1 _ _
  obtain ⟨w3, hw3⟩ : ∃ x, w2.setRow w1.heap.size (hv h1one) = x := ⟨_, rfl⟩
  have hmw3 : Box w3 w1.heap.size 43 (hv h1one) := by rw [← hw3]; exact setRow_heap _ _ _ _ _ _ hmw2
  have hbw3 : Below w1.heap.size w1 w3 := hbw2.trans (by rw [← hw3]; exact (Below.refl _ w2).grown (grown_row (grown_refl _ (some w1.heap.size)) _) hbw2.size (fun k e => by injection e with e; omega))
  have HMw2 := Lib.hid hmw2
  have HWw3 := Lib.hid hw3
  have hb13 := hbw3
  have hb3 := hb1.trans (hbw3.mono hb1.size)
  have hd3 : Dev w3 (fun k => w.heap.size ≤ k ∧ k ≠ w1.heap.size) p (Dv.new 10) := (hd1.weak (fun k q => ⟨q.1, by omega⟩)).below hbw3
  have hK3 : ∀ k, w3.heap.size ≤ k → w.heap.size ≤ k ∧ k ≠ w1.heap.size := fun k hk => ⟨by have := hb3.size; omega, by have := hmw3.lt; omega⟩
  have HSA := Lib.hid (save_says hd3 hK3 (by show 0 ≤ 90000; omega) h1one one_right)
  have q0 : w3.cell? ⟨w1.heap.size, 0, none⟩ = some (.int .u64 1) := (Box.cell hmw3 0).trans rfl
  have q1 : w3.cell? ⟨w1.heap.size, 1, none⟩ = some (.int .u64 1) := (Box.cell hmw3 1).trans rfl
  have q2 : w3.cell? ⟨w1.heap.size, 2, none⟩ = some (.int .i64 0) := (Box.cell hmw3 2).trans rfl
  have q3 : w3.cell? ⟨w1.heap.size, 3, none⟩ = some (.int .u64 1) := (Box.cell hmw3 3).trans rfl
  have q4 : w3.cell? ⟨w1.heap.size, 4, none⟩ = some (.int .i64 5) := (Box.cell hmw3 4).trans rfl
  have H3 := Lib.hid (And.intro hb3 hmw3)
  clear HNW hd1 hb1 hmw2 hbw2 hmw3 hbw3 hw3 hb13 hb3 hd3 hK3
  go_wp2_with (refine wpList_store_row rfl 43 _ _ rfl w1.heap.size (hv h1one) rfl rfl 43 _ HMw2.out (by rw [hv_size]; exact hdInfo) rfl (hv_one _) ?_; rw [HWw3.out])
  clear q0 q1 q2 q3 q4
  refine HSA.out.mono ?_
  rintro e w4 ⟨rfl, hd4, ht4⟩
  rw [one_save] at hd4
  have hm4 := ht4.box H3.out.2 (fun q => q.2 rfl)
  have hb4 := H3.out.1.trans (ht4.below (fun k q => q.1) H3.out.1.size)
  have hsv : (saveTo (Dv.new 10) h1one).1 = 0 := by rw [one_save]
  rw [hsv]
  have hd4 : Dev w4 (fun k => w.heap.size ≤ k ∧ k ≠ w1.heap.size) p oneD := hd4
  have HLO := Lib.hid (load_says hd4 (fun k hk => ⟨by have := hb4.size; omega, by have := hm4.lt; omega⟩) (by show 2 ≤ 90000; omega) (by show 2 ≤ 10; omega) rfl rfl)
  have H4 := Lib.hid (And.intro hb4 hm4)
  clear hd4 ht4 hm4 hb4 hsv HSA H3
  go_wp2_with fail
  refine HLO.out.mono ?_
  rintro e w5 ⟨rfl, hd5, ht5⟩
  rw [one_last, show (if h1one = Hd.zero then (13 : Int) else 0) = 0 from rfl]
  have hm5 := ht5.box H4.out.2 (fun q => q.2 rfl)
  have hb5 := H4.out.1.trans (ht5.below (fun k q => q.1) H4.out.1.size)
  obtain ⟨w6, hw6⟩ : ∃ x, w5.alloc (.cells #[.int .u64 0, .int .u64 0, .int .i64 0, .int .u64 0, .int .i64 0] 43) = x := ⟨_, rfl⟩
  have hbw6 : Below w5.heap.size w5 w6 := by rw [← hw6]; exact (Below.refl _ w5).alloc (Nat.le_refl _) _
  have hmw6 : Box w6 w5.heap.size 43 (hv Hd.zero) := by rw [← hw6]; exact Box.made w5 _ _
  obtain ⟨w7, hw7⟩ : ∃ x, w6.setRow w5.heap.size (hv h1one) = x := ⟨_, rfl⟩
  have hmw7 : Box w7 w5.heap.size 43 (hv h1one) := by rw [← hw7]; exact setRow_heap _ _ _ _ _ _ hmw6
  have hbw7 : Below w5.heap.size w5 w7 := hbw6.trans (by rw [← hw7]; exact (Below.refl _ w6).grown (grown_row (grown_refl _ (some w5.heap.size)) _) hbw6.size (fun k e => by injection e with e; omega))
  have HMw6 := Lib.hid hmw6
  have HWw7 := Lib.hid hw7
  have hm7 := Box.below hm5 hbw7 hm5.lt
  have HB7 := Lib.hid (hb5.trans (hbw7.mono hb5.size))
  have q0 : w7.cell? ⟨w1.heap.size, 0, none⟩ = some (.int .u64 1) := (Box.cell hm7 0).trans rfl
  have q1 : w7.cell? ⟨w1.heap.size, 1, none⟩ = some (.int .u64 1) := (Box.cell hm7 1).trans rfl
  have q2 : w7.cell? ⟨w1.heap.size, 2, none⟩ = some (.int .i64 0) := (Box.cell hm7 2).trans rfl
  have q3 : w7.cell? ⟨w1.heap.size, 3, none⟩ = some (.int .u64 1) := (Box.cell hm7 3).trans rfl
  have q4 : w7.cell? ⟨w1.heap.size, 4, none⟩ = some (.int .i64 5) := (Box.cell hm7 4).trans rfl
  have r0 : w7.cell? ⟨w5.heap.size, 0, none⟩ = some (.int .u64 1) := (Box.cell hmw7 0).trans rfl
  have r1 : w7.cell? ⟨w5.heap.size, 1, none⟩ = some (.int .u64 1) := (Box.cell hmw7 1).trans rfl
  have r2 : w7.cell? ⟨w5.heap.size, 2, none⟩ = some (.int .i64 0) := (Box.cell hmw7 2).trans rfl
  have r3 : w7.cell? ⟨w5.heap.size, 3, none⟩ = some (.int .u64 1) := (Box.cell hmw7 3).trans rfl
  have r4 : w7.cell? ⟨w5.heap.size, 4, none⟩ = some (.int .i64 5) := (Box.cell hmw7 4).trans rfl
  clear hd5 ht5 hm5 hb5 hmw6 hbw6 hmw7 hbw7 hw7 hm7 H4 HLO
  go_wp2_with (refine wpList_store_row rfl 43 _ _ rfl w5.heap.size (hv h1one) rfl rfl 43 _ HMw6.out (by rw [hv_size]; exact hdInfo) rfl (hv_one _) ?_; rw [HWw7.out])
  go_ret
  exact ⟨rfl, HB7.out⟩
end Go.Proofs.Ythpfdenpgegheaa
