/-
  The laws' own small play on bitmap; the reference's Has and Run.
-/
import Derived.Test.YtnhondkdkjehaaaBitR
namespace Go.Proofs.Ytnhondkdkjehaaa
open Go.RowKit

set_option linter.unusedVariables false
set_option linter.unusedSimpArgs false
theorem isRun_dec (f : Nat → Bool) (n m i : Nat) (hm : 1 ≤ m) (hi : i + m ≤ n) (h : (List.range m).all (fun k => !f (i + k)) = true) (hj : (List.range i).all (fun j => (List.range m).any fun k => f (j + k)) = true) : IsRun f n m i := by
  rw [List.all_eq_true] at h hj
  refine .inl ⟨i, rfl, by omega, ⟨by omega, fun k h1 h2 => ?_⟩, fun j hj' hf => ?_⟩
  · have := h (k - i) (List.mem_range.2 (by omega))
    rw [show i + (k - i) = k by omega] at this
    simpa using this
  · have := hj j (List.mem_range.2 hj')
    rw [List.any_eq_true] at this
    obtain ⟨k, hk, hk'⟩ := this
    have h2 := hf.2 (j + k) (by omega) (by have := List.mem_range.1 hk; omega)
    rw [h2] at hk'
    cases hk'
theorem isRun_none (f : Nat → Bool) (n m : Nat) (hj : (List.range (n + 1 - m)).all (fun j => (List.range m).any fun k => f (j + k)) = true) : IsRun f n m (-1) := by
  rw [List.all_eq_true] at hj
  refine .inr ⟨rfl, .inr fun j hf => ?_⟩
  have := hj j (List.mem_range.2 (by have := hf.1; omega))
  rw [List.any_eq_true] at this
  obtain ⟨k, hk, hk'⟩ := this
  have h2 := hf.2 (j + k) (by omega) (by have := List.mem_range.1 hk; omega)
  rw [h2] at hk'
  cases hk'
/-- Bits that are stored at a new place. -/
theorem rb_stored {w0 w1 : World} {B n : Nat} {x : Value} {l : List UInt8} (hB : Below w0.heap.size w0 w1) (ho : Own w1 B x l) (w2 : World) (hw2 : (w1.alloc (.cells #[.int .i64 0, .slice none 0 0] 25)).setRow w1.heap.size #[.int .i64 (n : Int), x] = w2) : RB w0 w2 B w1.heap.size n x l ∧ Below w1.heap.size w1 w2 := by
  have hb1 : Below w1.heap.size w1 (w1.alloc (.cells #[.int .i64 0, .slice none 0 0] 25)) := (Below.refl _ w1).alloc (Nat.le_refl _) _
  have hm1 : Box (w1.alloc (.cells #[.int .i64 0, .slice none 0 0] 25)) w1.heap.size 25 #[.int .i64 0, .slice none 0 0] := Box.made w1 _ _
  have hg : (w1.alloc (.cells #[.int .i64 0, .slice none 0 0] 25)).grownBy w2 (some w1.heap.size) := by rw [← hw2]; exact grown_row (grown_refl _ _) _
  have hb2 : Below w1.heap.size w1 w2 := below_grown hb1 hg (Nat.le_refl _) hb1.size
  have hm2 : Box w2 w1.heap.size 25 #[.int .i64 (n : Int), x] := by rw [← hw2]; exact setRow_heap _ _ _ _ _ _ hm1
  exact ⟨⟨hm2, (ho.below hb1).grown hg (Box.apart hm1 (ho.below hb1) (by decide)), hB.trans (hb2.mono hB.size)⟩, hb2⟩
theorem bits_box (w1 : World) : Box (w1.alloc (.cells #[.int .i64 0, .slice none 0 0] 25)) w1.heap.size 25 #[.int .i64 0, .slice none 0 0] := Box.made w1 _ _
theorem one_with1 (w : World) (B : Nat) (x : Value) (h : Own w B x [0]) (hB : B ≤ w.heap.size) : Calls Try.prog 12 #[.agg #[.int .i64 8, x], .int .i64 0, .int .i64 2] w fun e w' => ∃ v', e = .returned (.agg #[.int .i64 8, v']) ∧ Own w' w.heap.size v' [3] ∧ Below w.heap.size w w' := by
  have l1 : withA 8 [0] 0 2 = [3] := by decide +kernel
  have := bwith_says w B 8 x [0] h hB (by decide) (by decide) (by decide) 0 2 (by omega) (by omega)
  rw [l1] at this
  exact this
theorem one_with2 (w : World) (B : Nat) (x : Value) (h : Own w B x [3]) (hB : B ≤ w.heap.size) : Calls Try.prog 12 #[.agg #[.int .i64 8, x], .int .i64 4, .int .i64 1] w fun e w' => ∃ v', e = .returned (.agg #[.int .i64 8, v']) ∧ Own w' w.heap.size v' [19] ∧ Below w.heap.size w w' := by
  have l1 : withA 8 [3] 4 1 = [19] := by decide +kernel
  have := bwith_says w B 8 x [3] h hB (by decide) (by decide) (by decide) 4 1 (by omega) (by omega)
  rw [l1] at this
  exact this
theorem one_new (w : World) : Calls Try.prog 7 #[.int .i64 8] w fun e w' => ∃ x, e = .returned (.agg #[.int .i64 8, x]) ∧ Own w' w.heap.size x [0] ∧ Below w.heap.size w w' :=
  (new_says w 8 (by omega)).mono (fun e w' ⟨g, h1, h2, h3⟩ => ⟨_, h1, h2, h3⟩)
theorem one_run2 (w : World) (B : Nat) (x : Value) (h : Own w B x [19]) : Calls Try.prog 14 #[.agg #[.int .i64 8, x], .int .i64 2] w fun e w' => e = .returned (.int .i64 2) ∧ Below w.heap.size w w' :=
  (brun_says w B 8 x [19] h (by decide) (by decide) 2 (by omega)).mono (fun e w' ⟨r, h1, h2, h3⟩ => ⟨by rw [h1, h2.one (isRun_dec (hasB [19]) 8 2 2 (by decide) (by decide) (by decide +kernel) (by decide +kernel))]; rfl, h3⟩)
theorem one_run3 (w : World) (B : Nat) (x : Value) (h : Own w B x [19]) : Calls Try.prog 14 #[.agg #[.int .i64 8, x], .int .i64 3] w fun e w' => e = .returned (.int .i64 5) ∧ Below w.heap.size w w' :=
  (brun_says w B 8 x [19] h (by decide) (by decide) 3 (by omega)).mono (fun e w' ⟨r, h1, h2, h3⟩ => ⟨by rw [h1, h2.one (isRun_dec (hasB [19]) 8 3 5 (by decide) (by decide) (by decide +kernel) (by decide +kernel))]; rfl, h3⟩)
theorem one_run4 (w : World) (B : Nat) (x : Value) (h : Own w B x [19]) : Calls Try.prog 14 #[.agg #[.int .i64 8, x], .int .i64 4] w fun e w' => e = .returned (.int .i64 (-1)) ∧ Below w.heap.size w w' :=
  (brun_says w B 8 x [19] h (by decide) (by decide) 4 (by omega)).mono (fun e w' ⟨r, h1, h2, h3⟩ => ⟨by rw [h1, h2.one (isRun_none (hasB [19]) 8 4 (by decide +kernel))], h3⟩)
theorem one_used (w : World) (B : Nat) (x : Value) (h : Own w B x [19]) : Calls Try.prog 8 #[.agg #[.int .i64 8, x]] w fun e w' => e = .returned (.int .i64 3) ∧ Below w.heap.size w w' := by
  have u19 : usedL [19] = 3 := by decide +kernel
  have := bused_says w B 8 x [19] h (by decide)
  rw [u19] at this
  exact this
theorem one_bytes (w : World) (B : Nat) (x : Value) (h : Own w B x [19]) (hB : B ≤ w.heap.size) : Calls Try.prog 11 #[.agg #[.int .i64 8, x]] w fun e w' => ∃ g c, e = .returned (.slice (some ⟨g, 0, none⟩) 1 c) ∧ w'.cell? ⟨g, 0, none⟩ = some (.int .u8 19) ∧ Below w.heap.size w w' :=
  (bbytes_says w B 8 x [19] h hB (by decide)).mono (fun e w' ⟨v, h1, h2, h3⟩ => by
    obtain ⟨g, c, rfl, _, _, hc⟩ := h2.byte (i := 0) (by decide)
    exact ⟨g, c, h1, hc, h3⟩)
set_option maxRecDepth 100000 in
set_option maxHeartbeats 8000000 in
theorem bone_says (w : World) : Calls Try.prog 9 #[] w fun e w' => e = .returned (.bool true) ∧ Below w.heap.size w w' := by
  go_enter Try.func9, Try.ntmps9
  go_wp2_with fail
  go_at_call 7; refine (one_new w).mono ?_; rintro e w1 ⟨x1, rfl, ho1, hb1⟩; have H1 := Lib.hid (And.intro ho1 hb1); clear ho1 hb1
  go_wp2_with fail
  go_at_call 12; refine (one_with1 w1 w.heap.size x1 H1.out.1 H1.out.2.size).mono ?_; rintro e w2 ⟨x2, rfl, ho2, hb2⟩; have H2 := Lib.hid (And.intro (ho2.base H1.out.2.size) (H1.out.2.trans (hb2.mono H1.out.2.size))); clear ho2 hb2 H1
  go_wp2_with fail
  go_at_call 12; refine (one_with2 w2 w.heap.size x2 H2.out.1 H2.out.2.size).mono ?_; rintro e w3 ⟨x3, rfl, ho3, hb3⟩; have H3 := Lib.hid (And.intro (ho3.base H2.out.2.size) (H2.out.2.trans (hb3.mono H2.out.2.size))); clear ho3 hb3 H2
  obtain ⟨A3, c3, hx3, hl3⟩ := H3.out.1.lies
  clear hl3
  subst hx3
  obtain ⟨w4, hw4⟩ : ∃ y, w3.alloc (.cells #[.int .i64 0, .slice none 0 0] 25) = y := ⟨_, rfl⟩
  have hx4 : Box w4 w3.heap.size 25 #[.int .i64 0, .slice none 0 0] := by rw [← hw4]; exact Box.made w3 _ _
  obtain ⟨w5, hw5⟩ : ∃ y, w4.setRow w3.heap.size #[.int .i64 8, .slice A3 [(19 : UInt8)].length c3] = y := ⟨_, rfl⟩
  have H5 := Lib.hid (rb_stored (n := 8) H3.out.2 H3.out.1 w5 (by rw [hw4]; exact hw5)).1
  have HX4 := Lib.hid hx4
  have HW5 := Lib.hid hw5
  clear hx4 hw5
  have d0 : w5.cell? ⟨w3.heap.size, 0, none⟩ = some (.int .i64 8) := (Box.cell H5.out.bits 0).trans rfl
  have d1 : w5.cell? ⟨w3.heap.size, 1, none⟩ = some (.slice A3 [(19 : UInt8)].length c3) := (Box.cell H5.out.bits 1).trans rfl
  go_wp2_with (refine wpList_store_row rfl 25 _ _ rfl w3.heap.size #[.int .i64 8, .slice A3 [(19 : UInt8)].length c3] rfl rfl 25 _ HX4.out bitsInfo rfl (by simp [Value.oneCell']) ?_; rw [HW5.out])
  go_at_call 14
  refine (one_run2 w5 w.heap.size _ H5.out.own).mono ?_
  rintro e w6 ⟨rfl, hb⟩
  have H6 := Lib.hid (H5.out.below hb)
  clear hb d0 d1 H5
  have d0 : w6.cell? ⟨w3.heap.size, 0, none⟩ = some (.int .i64 8) := (Box.cell H6.out.bits 0).trans rfl
  have d1 : w6.cell? ⟨w3.heap.size, 1, none⟩ = some (.slice A3 [(19 : UInt8)].length c3) := (Box.cell H6.out.bits 1).trans rfl
  go_wp2_with fail
  go_at_call 14
  refine (one_run3 w6 w.heap.size _ H6.out.own).mono ?_
  rintro e w7 ⟨rfl, hb⟩
  have H7 := Lib.hid (H6.out.below hb)
  clear hb d0 d1 H6
  have d0 : w7.cell? ⟨w3.heap.size, 0, none⟩ = some (.int .i64 8) := (Box.cell H7.out.bits 0).trans rfl
  have d1 : w7.cell? ⟨w3.heap.size, 1, none⟩ = some (.slice A3 [(19 : UInt8)].length c3) := (Box.cell H7.out.bits 1).trans rfl
  go_wp2_with fail
  go_at_call 14
  refine (one_run4 w7 w.heap.size _ H7.out.own).mono ?_
  rintro e w8 ⟨rfl, hb⟩
  have H8 := Lib.hid (H7.out.below hb)
  clear hb d0 d1 H7
  have d0 : w8.cell? ⟨w3.heap.size, 0, none⟩ = some (.int .i64 8) := (Box.cell H8.out.bits 0).trans rfl
  have d1 : w8.cell? ⟨w3.heap.size, 1, none⟩ = some (.slice A3 [(19 : UInt8)].length c3) := (Box.cell H8.out.bits 1).trans rfl
  go_wp2_with fail
  go_at_call 8
  refine (one_used w8 w.heap.size _ H8.out.own).mono ?_
  rintro e w9 ⟨rfl, hb⟩
  have H9 := Lib.hid (H8.out.below hb)
  clear hb d0 d1 H8
  have d0 : w9.cell? ⟨w3.heap.size, 0, none⟩ = some (.int .i64 8) := (Box.cell H9.out.bits 0).trans rfl
  have d1 : w9.cell? ⟨w3.heap.size, 1, none⟩ = some (.slice A3 [(19 : UInt8)].length c3) := (Box.cell H9.out.bits 1).trans rfl
  go_wp2_with fail
  go_at_call 11
  refine (one_bytes w9 w.heap.size _ H9.out.own H9.out.bel.size).mono ?_
  rintro e w10 ⟨g10, cc10, rfl, hc10, hb⟩
  have H10 := Lib.hid (H9.out.below hb)
  clear hb d0 d1 H9
  have d0 : w10.cell? ⟨w3.heap.size, 0, none⟩ = some (.int .i64 8) := (Box.cell H10.out.bits 0).trans rfl
  have d1 : w10.cell? ⟨w3.heap.size, 1, none⟩ = some (.slice A3 [(19 : UInt8)].length c3) := (Box.cell H10.out.bits 1).trans rfl
  go_wp2_with fail
  go_at_call 11
  refine (one_bytes w10 w.heap.size _ H10.out.own H10.out.bel.size).mono ?_
  rintro e w11 ⟨g11, cc11, rfl, hc11, hb⟩
  have H11 := Lib.hid (H10.out.below hb)
  clear hb d0 d1 H10
  have d0 : w11.cell? ⟨w3.heap.size, 0, none⟩ = some (.int .i64 8) := (Box.cell H11.out.bits 0).trans rfl
  have d1 : w11.cell? ⟨w3.heap.size, 1, none⟩ = some (.slice A3 [(19 : UInt8)].length c3) := (Box.cell H11.out.bits 1).trans rfl
  go_wp2_with fail
  go_ret
  exact ⟨rfl, H11.out.bel⟩
end Go.Proofs.Ytnhondkdkjehaaa
