/-
  What a device tells that nobody made; DevNobody, walked.
-/
import Derived.Test.YtemgphpgfdnkeaaOneS
namespace Go.Proofs.Ytemgphpgfdnkeaa
open Go.RowKit

/-- A device that nobody made: none, or a plain one. -/
def Bare (w : World) (q : Option Addr) : Prop := q = none ∨ ∃ p, q = some ⟨p, 0, none⟩ ∧ p < w.heap.size ∧ w.cell? ⟨p, 0, none⟩ = some (.slice none 0 0)
theorem Bare.below {w w' : World} {q : Option Addr} (h : Bare w q) (hb : Below w.heap.size w w') : Bare w' q := by
  rcases h with h | ⟨p, h1, h2, h3⟩
  · exact .inl h
  · exact .inr ⟨p, h1, Nat.lt_of_lt_of_le h2 hb.size, (hb.cell (p := ⟨p, 0, none⟩) h2).trans h3⟩
theorem bare_made (w : World) (q : Option Addr) (h : Bare w q) : Calls Try.prog 25 #[.pointer q] w fun e w' => e = .returned (.bool false) ∧ w' = w := by
  rcases h with rfl | ⟨p, rfl, _, h⟩
  · exact made_nil w
  · exact made_bare w p h
set_option maxHeartbeats 1000000 in
theorem bare_arm (w : World) (q : Option Addr) (h : Bare w q) (n : Int) : Calls Try.prog 10 #[.pointer q, .int .i64 n] w fun e w' => e = .returned (.tuple #[]) ∧ w' = w := by
  have hM := bare_made w q h
  clear h
  go_enter Try.func10, Try.ntmps10
  go_wp2_with (go_at_call 25; refine hM.mono ?_; rintro e wn ⟨rfl, hwn⟩; obtain rfl : w = wn := hwn.symm)
  first | go_end0 | refine bodyPost_ret (results_none rfl _ _ _) rfl ?_
  exact ⟨rfl, rfl⟩
set_option maxHeartbeats 1000000 in
theorem bare_read (w : World) (q : Option Addr) (h : Bare w q) (n : Int) : Calls Try.prog 16 #[.pointer q, .int .i64 n] w fun e w' => e = .returned (.tuple #[.slice none 0 0, .int .i64 1]) ∧ w' = w := by
  have hM := bare_made w q h
  clear h
  go_enter Try.func16, Try.ntmps16
  go_wp2_with (go_at_call 25; refine hM.mono ?_; rintro e wn ⟨rfl, hwn⟩; obtain rfl : w = wn := hwn.symm)
  go_ret2
  exact ⟨rfl, rfl⟩
set_option maxHeartbeats 1000000 in
theorem bare_write (w : World) (q : Option Addr) (h : Bare w q) (n : Int) (A : Option Addr) (m c : Nat) : Calls Try.prog 13 #[.pointer q, .int .i64 n, .slice A m c] w fun e w' => e = .returned (.int .i64 1) ∧ w' = w := by
  have hM := bare_made w q h
  clear h
  go_enter Try.func13, Try.ntmps13
  go_wp2_with (go_at_call 25; refine hM.mono ?_; rintro e wn ⟨rfl, hwn⟩; obtain rfl : w = wn := hwn.symm)
  go_ret
  exact ⟨rfl, rfl⟩
set_option maxHeartbeats 1000000 in
theorem bare_flush (w : World) (q : Option Addr) (h : Bare w q)  : Calls Try.prog 15 #[.pointer q] w fun e w' => e = .returned (.int .i64 1) ∧ w' = w := by
  have hM := bare_made w q h
  clear h
  go_enter Try.func15, Try.ntmps15
  go_wp2_with (go_at_call 25; refine hM.mono ?_; rintro e wn ⟨rfl, hwn⟩; obtain rfl : w = wn := hwn.symm)
  go_ret
  exact ⟨rfl, rfl⟩
set_option maxHeartbeats 1000000 in
theorem bare_len (w : World) (q : Option Addr) (h : Bare w q)  : Calls Try.prog 9 #[.pointer q] w fun e w' => e = .returned (.int .i64 0) ∧ w' = w := by
  have hM := bare_made w q h
  clear h
  go_enter Try.func9, Try.ntmps9
  go_wp2_with (go_at_call 25; refine hM.mono ?_; rintro e wn ⟨rfl, hwn⟩; obtain rfl : w = wn := hwn.symm)
  go_ret
  exact ⟨rfl, rfl⟩
set_option maxHeartbeats 1000000 in
theorem bare_ops (w : World) (q : Option Addr) (h : Bare w q)  : Calls Try.prog 22 #[.pointer q] w fun e w' => e = .returned (.int .i64 0) ∧ w' = w := by
  have hM := bare_made w q h
  clear h
  go_enter Try.func22, Try.ntmps22
  go_wp2_with (go_at_call 25; refine hM.mono ?_; rintro e wn ⟨rfl, hwn⟩; obtain rfl : w = wn := hwn.symm)
  go_ret
  exact ⟨rfl, rfl⟩
set_option maxHeartbeats 1000000 in
theorem bare_waiting (w : World) (q : Option Addr) (h : Bare w q)  : Calls Try.prog 23 #[.pointer q] w fun e w' => e = .returned (.int .i64 0) ∧ w' = w := by
  have hM := bare_made w q h
  clear h
  go_enter Try.func23, Try.ntmps23
  go_wp2_with (go_at_call 25; refine hM.mono ?_; rintro e wn ⟨rfl, hwn⟩; obtain rfl : w = wn := hwn.symm)
  go_ret
  exact ⟨rfl, rfl⟩
set_option maxHeartbeats 1000000 in
theorem bare_down (w : World) (q : Option Addr) (h : Bare w q)  : Calls Try.prog 21 #[.pointer q] w fun e w' => e = .returned (.bool false) ∧ w' = w := by
  have hM := bare_made w q h
  clear h
  go_enter Try.func21, Try.ntmps21
  go_wp2_with (go_at_call 25; refine hM.mono ?_; rintro e wn ⟨rfl, hwn⟩; obtain rfl : w = wn := hwn.symm)
  go_ret
  exact ⟨rfl, rfl⟩
set_option maxHeartbeats 1000000 in
theorem bare_clone (w : World) (q : Option Addr) (h : Bare w q)  : Calls Try.prog 24 #[.pointer q] w fun e w' => e = .returned (.pointer none) ∧ w' = w := by
  have hM := bare_made w q h
  clear h
  go_enter Try.func24, Try.ntmps24
  go_wp2_with (go_at_call 25; refine hM.mono ?_; rintro e wn ⟨rfl, hwn⟩; obtain rfl : w = wn := hwn.symm)
  go_ret
  exact ⟨rfl, rfl⟩
set_option maxHeartbeats 1000000 in
theorem bare_fall (w : World) (q : Option Addr) (h : Bare w q) (A : Option Addr) (m c : Nat) : Calls Try.prog 11 #[.pointer q, .slice A m c] w fun e w' => e = .returned (.tuple #[]) ∧ Below w.heap.size w w' := by
  obtain ⟨w1, hw1⟩ : ∃ w1, w.alloc (.cells #[.pointer q] 23) = w1 := ⟨_, rfl⟩
  have hB1 : Below w.heap.size w w1 := by rw [← hw1]; exact (Below.refl _ w).alloc (Nat.le_refl _) _
  have hP1 : Box w1 w.heap.size 23 #[.pointer q] := by rw [← hw1]; exact Box.made w _ _
  have cP : w1.cell? ⟨w.heap.size, 0, none⟩ = some (.pointer q) := (Box.cell hP1 0).trans rfl
  have hM := bare_made w1 q (h.below hB1)
  have HB := Lib.hid hB1
  clear h hB1 hP1
  go_enter Try.func11, Try.ntmps11
  go_wp2_with (go_at_call 25; refine hM.mono ?_; rintro e wn ⟨rfl, hwn⟩; obtain rfl : w1 = wn := hwn.symm)
  first | go_end0 | refine bodyPost_ret (results_none rfl _ _ _) rfl ?_
  exact ⟨rfl, HB.out⟩

set_option maxRecDepth 100000 in
set_option maxHeartbeats 4000000 in
theorem devNobody_walk (w : World) (n : Int) : Calls Try.prog 5 #[.int .i64 n] w fun e w' => e = .returned (.bool true) ∧ Below w.heap.size w w' := by
  go_enter Try.func5, Try.ntmps5
  go_wp2_with fail
  go_loopw [3, 4, 5, 6] (fun i _ _ _ wr => ∃ k : Nat, k ≤ 2 ∧ i = .int .i64 (k : Int) ∧ Hid (Below w.heap.size w wr)) (fun i _ _ _ _ => 2 - (intOf i).toNat)
  case atStart => exact ⟨0, by omega, rfl, Lib.hid (Below.refl _ _)⟩
  case round =>
    obtain ⟨k, hk, rfl, H⟩ := hrel
    rcases k with _ | _ | _ | k
    · have hbx := Box.made wr 64 #[.slice none 0 0, .slice none 0 0, .int .i64 0, .int .i64 0, .bool false]
      obtain ⟨w1, hwe⟩ : ∃ x, wr.alloc (.cells #[.slice none 0 0, .slice none 0 0, .int .i64 0, .int .i64 0, .bool false] 64) = x := ⟨_, rfl⟩
      rw [hwe] at hbx
      have hB1 : Below wr.heap.size wr w1 := by rw [← hwe]; exact (Below.refl _ wr).alloc (Nat.le_refl _) _
      have HB1 := Lib.hid (show Bare w1 (some ⟨wr.heap.size, 0, none⟩) from .inr ⟨_, rfl, hbx.lt, (hbx.cell 0).trans rfl⟩)
      have HW1 := Lib.hid (H.out.trans (hB1.mono H.out.size))
      clear hbx hB1 H
      go_wp2_with (first | (go_at_call 10; refine (bare_arm w1 _ HB1.out _).mono ?_; rintro e wn ⟨rfl, hwn⟩; obtain rfl : w1 = wn := hwn.symm; clear hwn))
      obtain ⟨w2, hw2⟩ : ∃ x, w1.alloc (.cells #[.int .i64 n] 3) = x := ⟨_, rfl⟩
      have hB2 : Below w1.heap.size w1 w2 := by rw [← hw2]; exact (Below.refl _ w1).alloc (Nat.le_refl _) _
      rw [hw2]
      refine (bare_fall w2 _ (HB1.out.below hB2) _ _ _).mono ?_
      rintro e w3 ⟨rfl, hb3⟩
      have hB3 := hB2.trans (hb3.mono hB2.size)
      have HB3 := Lib.hid (HB1.out.below hB3)
      have HW3 := Lib.hid (HW1.out.trans (hB3.mono HW1.out.size))
      clear hB2 hb3 hB3 HB1 HW1 hw2 hwe
      go_wp2_with fail
      refine (bare_read w3 _ HB3.out _).mono ?_
      rintro e wn ⟨rfl, hwn⟩
      obtain rfl : w3 = wn := hwn.symm
      clear hwn
      go_wp2_with fail
      refine (block_says w3 1).mono ?_
      rintro e w4 ⟨rfl, _, hb4⟩
      have HB4 := Lib.hid (HB3.out.below hb4)
      have HW4 := Lib.hid (HW3.out.trans (hb4.mono HW3.out.size))
      clear hb4 HB3 HW3
      go_wp2_with fail
      refine (bare_write w4 _ HB4.out _ _ _ _).mono ?_
      rintro e wn ⟨rfl, hwn⟩
      obtain rfl : w4 = wn := hwn.symm
      clear hwn
      go_wp2_with fail
      refine (bare_flush w4 _ HB4.out ).mono ?_
      rintro e wn ⟨rfl, hwn⟩
      obtain rfl : w4 = wn := hwn.symm
      clear hwn
      go_wp2_with fail
      refine (bare_len w4 _ HB4.out ).mono ?_
      rintro e wn ⟨rfl, hwn⟩
      obtain rfl : w4 = wn := hwn.symm
      clear hwn
      go_wp2_with fail
      refine (bare_ops w4 _ HB4.out ).mono ?_
      rintro e wn ⟨rfl, hwn⟩
      obtain rfl : w4 = wn := hwn.symm
      clear hwn
      go_wp2_with fail
      refine (bare_waiting w4 _ HB4.out ).mono ?_
      rintro e wn ⟨rfl, hwn⟩
      obtain rfl : w4 = wn := hwn.symm
      clear hwn
      go_wp2_with fail
      refine (bare_down w4 _ HB4.out ).mono ?_
      rintro e wn ⟨rfl, hwn⟩
      obtain rfl : w4 = wn := hwn.symm
      clear hwn
      go_wp2_with fail
      refine (bare_clone w4 _ HB4.out ).mono ?_
      rintro e wn ⟨rfl, hwn⟩
      obtain rfl : w4 = wn := hwn.symm
      clear hwn
      go_wp2_with fail
      go_roundw
      case rel => exact ⟨1, by omega, rfl, HW4⟩
      case measure => simp [intOf]
    · have hbx := Box.made wr 64 #[.slice none 0 0, .slice none 0 0, .int .i64 0, .int .i64 0, .bool false]
      obtain ⟨w1, hwe⟩ : ∃ x, wr.alloc (.cells #[.slice none 0 0, .slice none 0 0, .int .i64 0, .int .i64 0, .bool false] 64) = x := ⟨_, rfl⟩
      rw [hwe] at hbx
      have hB1 : Below wr.heap.size wr w1 := by rw [← hwe]; exact (Below.refl _ wr).alloc (Nat.le_refl _) _
      have HB1 := Lib.hid (show Bare w1 (none) from .inl rfl)
      have HW1 := Lib.hid (H.out.trans (hB1.mono H.out.size))
      clear hbx hB1 H
      go_wp2_with (first | (go_at_call 10; refine (bare_arm w1 _ HB1.out _).mono ?_; rintro e wn ⟨rfl, hwn⟩; obtain rfl : w1 = wn := hwn.symm; clear hwn))
      obtain ⟨w2, hw2⟩ : ∃ x, w1.alloc (.cells #[.int .i64 n] 3) = x := ⟨_, rfl⟩
      have hB2 : Below w1.heap.size w1 w2 := by rw [← hw2]; exact (Below.refl _ w1).alloc (Nat.le_refl _) _
      rw [hw2]
      refine (bare_fall w2 _ (HB1.out.below hB2) _ _ _).mono ?_
      rintro e w3 ⟨rfl, hb3⟩
      have hB3 := hB2.trans (hb3.mono hB2.size)
      have HB3 := Lib.hid (HB1.out.below hB3)
      have HW3 := Lib.hid (HW1.out.trans (hB3.mono HW1.out.size))
      clear hB2 hb3 hB3 HB1 HW1 hw2 hwe
      go_wp2_with fail
      refine (bare_read w3 _ HB3.out _).mono ?_
      rintro e wn ⟨rfl, hwn⟩
      obtain rfl : w3 = wn := hwn.symm
      clear hwn
      go_wp2_with fail
      refine (block_says w3 1).mono ?_
      rintro e w4 ⟨rfl, _, hb4⟩
      have HB4 := Lib.hid (HB3.out.below hb4)
      have HW4 := Lib.hid (HW3.out.trans (hb4.mono HW3.out.size))
      clear hb4 HB3 HW3
      go_wp2_with fail
      refine (bare_write w4 _ HB4.out _ _ _ _).mono ?_
      rintro e wn ⟨rfl, hwn⟩
      obtain rfl : w4 = wn := hwn.symm
      clear hwn
      go_wp2_with fail
      refine (bare_flush w4 _ HB4.out ).mono ?_
      rintro e wn ⟨rfl, hwn⟩
      obtain rfl : w4 = wn := hwn.symm
      clear hwn
      go_wp2_with fail
      refine (bare_len w4 _ HB4.out ).mono ?_
      rintro e wn ⟨rfl, hwn⟩
      obtain rfl : w4 = wn := hwn.symm
      clear hwn
      go_wp2_with fail
      refine (bare_ops w4 _ HB4.out ).mono ?_
      rintro e wn ⟨rfl, hwn⟩
      obtain rfl : w4 = wn := hwn.symm
      clear hwn
      go_wp2_with fail
      refine (bare_waiting w4 _ HB4.out ).mono ?_
      rintro e wn ⟨rfl, hwn⟩
      obtain rfl : w4 = wn := hwn.symm
      clear hwn
      go_wp2_with fail
      refine (bare_down w4 _ HB4.out ).mono ?_
      rintro e wn ⟨rfl, hwn⟩
      obtain rfl : w4 = wn := hwn.symm
      clear hwn
      go_wp2_with fail
      refine (bare_clone w4 _ HB4.out ).mono ?_
      rintro e wn ⟨rfl, hwn⟩
      obtain rfl : w4 = wn := hwn.symm
      clear hwn
      go_wp2_with fail
      go_roundw
      case rel => exact ⟨2, by omega, rfl, HW4⟩
      case measure => simp [intOf]
    · go_wp2_with (go_at_call 8; refine (one_says _).mono ?_; rintro e w2 ⟨rfl, hb2⟩; have HB2 := Lib.hid (H.out.trans (hb2.mono H.out.size)); clear hb2)
      go_ret
      exact ⟨rfl, HB2.out⟩
    · omega
end Go.Proofs.Ytemgphpgfdnkeaa
