/-
  mark.Seal.
-/
import Derived.Test.YthpfdenpgegheaaMark
namespace Go.Proofs.Ythpfdenpgegheaa
open Go.RowKit

theorem mkInfo : (Try.prog.info? 25).map (·.size) = some 3 := by kernel_rfl
/-- A mark's cells, as a list. -/
def mvl (m : Mk) : List Value := [.int .u8 (m.kind.toNat : Int), .int .u64 (m.epoch : Int), .int .u64 (m.seq : Int)]
theorem mk_range {w : World} {g : Nat} {t : TypeId} {m : Mk} (h : Box w g t (mv m)) : w.rangeAt g 0 (mvl m) := fun j v hv => by
  rw [Box.cell h, Nat.zero_add]
  simpa [mv, mvl] using hv
theorem laidAt_bc (l xs : List UInt8) (o m : Nat) (hm : m = xs.length) : laidAt (bc l).toArray xs o m = (bc (laid l o xs)).toArray := by
  subst hm
  unfold laidAt laid
  rw [List.take_length, bc_append, bc_append, ← bc_take, ← bc_drop]
theorem replicate_length' : (List.replicate 256 (0 : UInt8)).length = 256 := List.length_replicate
set_option maxRecDepth 100000 in
set_option maxHeartbeats 2000000 in
theorem seal_kind (w : World) (m : Mk) (hm : m.may = false) (A : Option Addr) (n c : Nat) :
    Calls Try.prog 13 #[.agg (mv m), .slice A n c] w fun e w' => e = .returned (.tuple #[.slice none 0 0, .int .i64 2]) ∧ Below w.heap.size w w' := by
  obtain ⟨w1, hw1⟩ : ∃ w1, w.alloc (.cells #[.int .u8 (m.kind.toNat : Int), .int .u64 (m.epoch : Int), .int .u64 (m.seq : Int)] 25) = w1 := ⟨_, rfl⟩
  have hb1 : Below w.heap.size w w1 := by rw [← hw1]; exact (Below.refl _ w).alloc (Nat.le_refl _) _
  have hm1 : Box w1 w.heap.size 25 (mv m) := by rw [← hw1]; exact Box.made w _ _
  have H1 := Lib.hid (And.intro hb1 hm1)
  clear hb1 hm1
  go_enter Try.func13, Try.ntmps13
  simp only [mv]
  go_wp2_with (refine wpList_load_row rfl 25 _ rfl w.heap.size rfl 25 _ (0, 0) _ H1.out.2 Try.underlying25 rfl (by rw [mv_size]; exact mkInfo) ?_)
  refine (mayBe_says w1 m).mono ?_
  rw [hm]
  rintro e w2 ⟨rfl, hb2⟩
  have H2 := Lib.hid (H1.out.1.trans (hb2.mono H1.out.1.size))
  clear hb2
  go_wp2
  go_ret2
  exact ⟨rfl, H2.out⟩
set_option maxRecDepth 100000 in
set_option maxHeartbeats 2000000 in
theorem seal_big (w : World) (m : Mk) (hm : m.may = true) (A : Option Addr) (n c : Nat) (hn : 220 < n) :
    Calls Try.prog 13 #[.agg (mv m), .slice A n c] w fun e w' => e = .returned (.tuple #[.slice none 0 0, .int .i64 3]) ∧ Below w.heap.size w w' := by
  obtain ⟨w1, hw1⟩ : ∃ w1, w.alloc (.cells #[.int .u8 (m.kind.toNat : Int), .int .u64 (m.epoch : Int), .int .u64 (m.seq : Int)] 25) = w1 := ⟨_, rfl⟩
  have hb1 : Below w.heap.size w w1 := by rw [← hw1]; exact (Below.refl _ w).alloc (Nat.le_refl _) _
  have hm1 : Box w1 w.heap.size 25 (mv m) := by rw [← hw1]; exact Box.made w _ _
  have H1 := Lib.hid (And.intro hb1 hm1)
  clear hb1 hm1
  have l1 : 220 < (n : Int) := by omega
  go_enter Try.func13, Try.ntmps13
  simp only [mv]
  go_wp2_with (refine wpList_load_row rfl 25 _ rfl w.heap.size rfl 25 _ (0, 0) _ H1.out.2 Try.underlying25 rfl (by rw [mv_size]; exact mkInfo) ?_)
  refine (mayBe_says w1 m).mono ?_
  rw [hm]
  rintro e w2 ⟨rfl, hb2⟩
  have H2 := Lib.hid (H1.out.1.trans (hb2.mono H1.out.1.size))
  clear hb2
  go_wp2
  go_ret2
  exact ⟨rfl, H2.out⟩
/-- What Seal hands on. -/
def SealYes (w : World) (m : Mk) (l : List UInt8) (e : Ending) (w' : World) : Prop := ∃ g, e = .returned (.tuple #[.slice (some ⟨g, 0, none⟩) 256 256, .int .i64 0]) ∧ w.heap.size ≤ g ∧ Box w' g 5 (bc (sealed m l)).toArray ∧ Below w.heap.size w w'
set_option maxRecDepth 100000 in
set_option maxHeartbeats 4000000 in
theorem seal_yes (w : World) (m : Mk) (hm : m.may = true) (A : Option Addr) (n c : Nat) (l : List UInt8) (hl : Lies w (fun _ => True) A n c (bc l)) (hn : n ≤ 220) :
    Calls Try.prog 13 #[.agg (mv m), .slice A n c] w (SealYes w m l) := by
  have hll : l.length = n := by rw [← bc_length]; exact hl.len
  obtain ⟨i0, hi, hz0, hz1, hz2⟩ := info_parts Try.byteInfo
  obtain ⟨w1, hw1⟩ : ∃ w1, w.alloc (.cells #[.int .u8 (m.kind.toNat : Int), .int .u64 (m.epoch : Int), .int .u64 (m.seq : Int)] 25) = w1 := ⟨_, rfl⟩
  have hb1 : Below w.heap.size w w1 := by rw [← hw1]; exact (Below.refl _ w).alloc (Nat.le_refl _) _
  have hm1 : Box w1 w.heap.size 25 (mv m) := by rw [← hw1]; exact Box.made w _ _
  have hL := hl.weak (N' := fun b => b < w.heap.size) (fun b h _ => h)
  have H1 := Lib.hid (And.intro hb1 (And.intro hm1 (hL.below hb1)))
  have HLL := Lib.hid hll
  clear hb1 hm1 hl hL hll
  have l1 : ¬ 220 < (n : Int) := by omega
  go_enter Try.func13, Try.ntmps13
  simp only [mv]
  go_wp2_with (refine wpList_load_row rfl 25 _ rfl w.heap.size rfl 25 _ (0, 0) _ H1.out.2.1 Try.underlying25 rfl (by rw [mv_size]; exact mkInfo) ?_)
  refine (mayBe_says w1 m).mono ?_
  rw [hm]
  rintro e w2 ⟨rfl, hb2⟩
  have H2 := Lib.hid (And.intro (H1.out.1.trans (hb2.mono H1.out.1.size)) (And.intro (Box.below H1.out.2.1 hb2 H1.out.2.1.lt) (H1.out.2.2.below hb2)))
  clear hb2 H1 hw1
  go_wp2_with (first
    | (at_make; refine wpList_make_full w2 rfl _ _ 22 rfl w2.heap.size 5 i0 _ 1 Try.underlying22 hi hz0 hz1 _ _ _ _ 256 rfl rfl rfl rfl (by rw [hz2]; omega) (by unfold maxLen; omega) (Nat.le_refl _) ?_; intro w3 hown3 hg3; rw [zero_made] at hown3; have HW3 := Lib.hid (And.intro (box_own hown3) ((Below.refl w2.heap.size w2).grown hg3 (Nat.le_refl _) (fun k hk => by cases hk))); clear hown3 hg3)
    | (have hk3 := Box.below H2.out.2.1 HW3.out.2 H2.out.2.1.lt; refine wpList_load_row rfl 25 _ rfl w.heap.size rfl 25 _ (0, 0) _ hk3 Try.underlying25 rfl (by rw [mv_size]; exact mkInfo) ?_; clear hk3))
  have hg0 : w.heap.size < w2.heap.size := H2.out.2.1.lt
  have H3 := Lib.hid (And.intro (H2.out.1.trans (HW3.out.2.mono H2.out.1.size)) (And.intro (Box.below H2.out.2.1 HW3.out.2 H2.out.2.1.lt) (H2.out.2.2.below HW3.out.2)))
  have hx3 := HW3.out.1
  clear H2
  refine (putMark_says w3 w2.heap.size 0 256 256 (List.replicate 256 0) hx3 (by omega) (by omega) (by rw [replicate_length']; omega) (by rw [replicate_length']; omega) m).mono ?_
  rintro e w4 ⟨rfl, hx4, hg4⟩
  have hq4 : (laid (List.replicate 256 0) 0 m.bytes).length = 256 := by rw [laid_length (by rw [m.bytes_length, replicate_length']; omega)]; exact replicate_length'
  have H4 := Lib.hid (And.intro (below_grown H3.out.1 hg4 (by omega) H3.out.1.size) (And.intro (Box.grown H3.out.2.1 hg4 (by simp; omega)) (And.intro (H3.out.2.2.grown hg4 (by omega)) hx4)))
  clear hx3 hx4 hg4 H3 HW3
  have s4 : ∀ W, (Instr.sliceAt 22 (.slice (some ⟨w2.heap.size, 0, none⟩) 256 256) (some (.int .i64 17)) (some (.int .i64 19)) none).run Try.prog W = .ok (.slice (some ⟨w2.heap.size, 17, none⟩) 2 239) W := fun W => by have := cut_part w2.heap.size 0 256 256 17 19 (by omega) (by omega) (by omega) W; simpa using this
  go_wp2_with fail
  refine (putNumber_says w4 w2.heap.size 17 2 239 _ H4.out.2.2.2 (by rw [hq4]; omega) (by rw [hq4]; omega) n).mono ?_
  rintro e w5 ⟨rfl, hx5, hg5⟩
  have hq5 : (laid (laid (List.replicate 256 0) 0 m.bytes) 17 (beN 2 n)).length = 256 := by rw [laid_length (by rw [hq4, beN_length]; omega)]; exact hq4
  have H5 := Lib.hid (And.intro (below_grown H4.out.1 hg5 (by omega) H4.out.1.size) (And.intro (Box.grown H4.out.2.1 hg5 (by simp; omega)) (And.intro (H4.out.2.2.1.grown hg5 (by omega)) hx5)))
  clear hx5 hg5 H4 s4
  have s5 : ∀ W, (Instr.sliceAt 22 (.slice (some ⟨w2.heap.size, 0, none⟩) 256 256) (some (.int .i64 19)) none none).run Try.prog W = .ok (.slice (some ⟨w2.heap.size, 19, none⟩) 237 237) W := fun W => by have := cut_from w2.heap.size 0 256 256 19 (by omega) (by omega) W; simpa using this
  go_upto_region 8 with fail
  go_wp2_with (refine wpList_copy_gen rfl (.tmp 24) (.tmp 25) rfl w2.heap.size 19 237 237 n c A rfl rfl 5 _ H5.out.2.2.2 _ l H5.out.2.2.1 (by have := hq5; simp only [List.size_toArray, bc_length]; omega) ?_; intro w6 hx6 hg6; rw [show min n 237 = n by omega, laidAt_bc _ _ _ _ HLL.out.symm] at hx6; have H6 := Lib.hid (And.intro (below_grown H5.out.1 hg6 (by omega) H5.out.1.size) (And.intro (Box.grown H5.out.2.1 hg6 (by simp; omega)) hx6)); clear hx6 hg6 H5 s5)
  have hq6 : (laid (laid (laid (List.replicate 256 0) 0 m.bytes) 17 (beN 2 n)) 19 l).length = 256 := by rw [laid_length (by rw [hq5, HLL.out]; omega)]; exact hq5
  have s6 : ∀ W, (Instr.sliceAt 22 (.slice (some ⟨w2.heap.size, 0, none⟩) 256 256) (some (.int .i64 239)) none none).run Try.prog W = .ok (.slice (some ⟨w2.heap.size, 239, none⟩) 17 17) W := fun W => by have := cut_from w2.heap.size 0 256 256 239 (by omega) (by omega) W; simpa using this
  have HR := Lib.hid (mk_range (show Box w6.drew w.heap.size 25 (mv m) from H6.out.2.1))
  go_still_tail 3, (by kernel_rfl)
  refine wpStill_load rfl 25 (.tmp 2) rfl w.heap.size 0 rfl (mvl m) _ HR.out Try.underlying25 rfl (by kernel_rfl) ?_
  simp only [Act.put, List.setIfInBounds_toArray, List.set_cons_zero, List.set_cons_succ]
  repeat still_step
  refine wpStill_nil ?_
  change wpList _ _ _ _ _ w6.drew
  go_wp2_with fail
  refine (putMark_says w6.drew w2.heap.size 239 17 17 _ H6.out.2.2 (by omega) (by omega) (by rw [hq6]; omega) (by rw [hq6]; omega) m).mono ?_
  rintro e w7 ⟨rfl, hx7, hg7⟩
  have hx7 := hx7
  rw [← HLL.out, sealed_steps m l (by rw [HLL.out]; omega)] at hx7
  have H7 := Lib.hid (And.intro (below_grown (c := w7) (show Below w.heap.size w w6.drew from H6.out.1.drew) hg7 (by omega) H6.out.1.size) hx7)
  clear hx7 hg7 H6 s6
  go_wp2
  go_ret2
  exact ⟨_, rfl, by omega, H7.out.2, H7.out.1⟩
end Go.Proofs.Ythpfdenpgegheaa
