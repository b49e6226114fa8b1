/-
  The laws' own.
-/
import Derived.Test.YthpfdenpgegheaaRefSeal
namespace Go.Proofs.Ythpfdenpgegheaa
open Go.RowKit

set_option maxRecDepth 100000 in
set_option maxHeartbeats 2000000 in
theorem own_says (w : World) (m : Mk) : Calls Try.prog 9 #[.agg (mv m)] w fun e w' => e = .returned (.agg (mv m)) ∧ Below w.heap.size w w' := by
  obtain ⟨w2, hw2⟩ : ∃ x, (w.alloc (.cells #[.int .u8 (m.kind.toNat : Int), .int .u64 (m.epoch : Int), .int .u64 (m.seq : Int)] 25)).alloc (.cells #[.int .u8 0, .int .u64 0, .int .u64 0] 29) = x := ⟨_, rfl⟩
  have hb2 : Below w.heap.size w w2 := by rw [← hw2]; exact ((Below.refl _ w).alloc (Nat.le_refl _) _).alloc (by simp) _
  have hm2 : Box w2 w.heap.size 25 (mv m) := by rw [← hw2]; exact Box.alloc (Box.made w 25 (mv m)) _
  have hr2 : Box w2 (w.heap.size + 1) 29 (mv Mk.zero) := by
    rw [← hw2]
    have := Box.made (w.alloc (.cells (mv m) 25)) 29 (mv Mk.zero)
    rwa [World.size_alloc] at this
  have c0 : w2.cell? ⟨w.heap.size, 0, none⟩ = some (.int .u8 (m.kind.toNat : Int)) := (Box.cell hm2 0).trans rfl
  have c1 : w2.cell? ⟨w.heap.size, 1, none⟩ = some (.int .u64 (m.epoch : Int)) := (Box.cell hm2 1).trans rfl
  have c2 : w2.cell? ⟨w.heap.size, 2, none⟩ = some (.int .u64 (m.seq : Int)) := (Box.cell hm2 2).trans rfl
  obtain ⟨w3, hw3⟩ : ∃ x, w2.setRow (w.heap.size + 1) (mv m) = x := ⟨_, rfl⟩
  have hr3 : Box w3 (w.heap.size + 1) 29 (mv m) := by rw [← hw3]; exact setRow_heap _ _ _ _ _ _ hr2
  have hb3 : Below w.heap.size w w3 := hb2.trans (by rw [← hw3]; exact (Below.refl _ w2).grown (grown_row (grown_refl _ (some (w.heap.size + 1))) _) hb2.size (fun k e => by injection e with e; omega))
  have e0 : w3.cell? ⟨w.heap.size + 1, 0, none⟩ = some (.int .u8 (m.kind.toNat : Int)) := (Box.cell hr3 0).trans rfl
  have e1 : w3.cell? ⟨w.heap.size + 1, 1, none⟩ = some (.int .u64 (m.epoch : Int)) := (Box.cell hr3 1).trans rfl
  have e2 : w3.cell? ⟨w.heap.size + 1, 2, none⟩ = some (.int .u64 (m.seq : Int)) := (Box.cell hr3 2).trans rfl
  have HR := Lib.hid hr2
  have HW := Lib.hid hw3
  have HB := Lib.hid hb3
  clear hb2 hm2 hr2 hw3 hr3 hb3
  go_enter Try.func9, Try.ntmps9
  simp only [mv]
  go_wp2_with (refine wpList_store_row rfl 29 _ _ rfl (w.heap.size + 1) (mv m) rfl rfl 29 _ HR.out (by rw [mv_size]; exact refInfo) rfl (mv_one _) ?_; rw [HW.out])
  exact bodyPost_ret (v := .agg (mv m)) (by simp [results, Try.results9, go_sem, e0, e1, e2, mv]) rfl ⟨rfl, HB.out⟩
end Go.Proofs.Ythpfdenpgegheaa
