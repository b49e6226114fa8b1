/-
  Used, within, copied, Of of package bitmap.
-/
import Derived.Test.YtnhondkdkjehaaaBitH
namespace Go.Proofs.Ytnhondkdkjehaaa
open Go.RowKit

set_option linter.unusedVariables false
set_option linter.unusedSimpArgs false
theorem ones_pop (b : UInt8) : Lib.onesCount ((b.toNat : Int)).toNat = pop b := by
  have h : ∀ a : Fin 256, Lib.onesCount a.val = pop (UInt8.ofNat a.val) := by decide +kernel
  have := h ⟨b.toNat, b.toNat_lt⟩
  simpa using this
theorem ones_says (w : World) (b : UInt8) : Calls Try.prog 18 #[.int .u8 (b.toNat : Int)] w fun e w' => e = .returned (.int .i64 (pop b : Int)) ∧ w' = w := by
  rw [← ones_pop b]
  have := b.toNat_lt
  exact Try.bits_OnesCount8 _ w (by omega) (by omega)
theorem usedL_step (l : List UInt8) (k : Nat) (z : UInt8) (h : l[k]? = some z) : usedL (l.take (k + 1)) = usedL (l.take k) + pop z := by
  unfold usedL
  rw [List.take_add_one, h]
  simp
set_option maxRecDepth 100000 in
set_option maxHeartbeats 2000000 in
theorem bused_says (w : World) (B n : Nat) (x : Value) (l : List UInt8) (h : Own w B x l) (h1 : l.length ≤ 4096) : Calls Try.prog 8 #[.agg #[.int .i64 (n : Int), x]] w fun e w' => e = .returned (.int .i64 (usedL l : Int)) ∧ Below w.heap.size w w' := by
  obtain ⟨w1, hw1⟩ : ∃ y, w.alloc (.cells #[.int .i64 (n : Int), x] 25) = y := ⟨_, rfl⟩
  have hx1 : Box w1 w.heap.size 25 #[.int .i64 (n : Int), x] := by rw [← hw1]; exact Box.made w _ _
  have hB1 : Below w.heap.size w w1 := by rw [← hw1]; exact (Below.refl _ w).alloc (Nat.le_refl _) _
  have c1 := (Box.cell hx1 1).trans rfl
  have HB := Lib.hid hB1
  have HO := Lib.hid (h.below hB1)
  obtain ⟨A, c, rfl, hl⟩ := h.lies
  have HW := Lib.hid hw1
  clear h hl hx1 hB1
  go_enter Try.func8, Try.ntmps8
  go_wp2_with fail
  go_loopw [3, 9] (fun s i wr => wr = w1 ∧ ∃ (k : Nat), k ≤ l.length ∧ i = .int .i64 (k : Int) ∧ s = .int .i64 (usedL (l.take k) : Int)) (fun _ i _ => l.length - (intOf i).toNat)
  case atStart => exact ⟨rfl, 0, by omega, rfl, rfl⟩
  case round =>
    obtain ⟨rfl, k, hk, rfl, rfl⟩ := hrel
    by_cases hlt : k < l.length
    · have l1 : (k : Int) < (l.length : Int) := by omega
      obtain ⟨g, c', he, _, hg, hc⟩ := HO.out.byte hlt
      obtain ⟨z, hz⟩ : ∃ z, l.getD k 0 = z := ⟨_, rfl⟩
      rw [hz] at hc
      injection he with he1 he2 he3
      subst he1 he3
      have hzz : l[k]? = some z := by rw [← hz]; simp [List.getD, List.getElem?_eq_getElem hlt]
      have HST := Lib.hid (usedL_step l k z hzz)
      have u1 := usedL_le (l.take k)
      have u2 := pop_le z
      have u3 : (l.take k).length ≤ 4096 := by rw [List.length_take]; omega
      have u4 : IntKind.i64.wrap ((usedL (l.take k) : Int) + (pop z : Int)) = (usedL (l.take k) : Int) + (pop z : Int) := IntWalk.i64_in _ (by omega)
      clear hz hzz
      go_wp2_with (go_at_call 18; refine (ones_says _ z).mono ?_; rintro e wn ⟨rfl, rfl⟩)
      go_roundw
      case rel => exact ⟨trivial, k + 1, by omega, by go_num, by rw [HST.out]; simp⟩
      case measure => simp [intOf]; omega
    · obtain rfl : k = l.length := by omega
      have l1 : ¬ (l.length : Int) < (l.length : Int) := by omega
      go_wp2
      go_ret
      exact ⟨rfl, HB.out⟩
set_option maxRecDepth 100000 in
set_option maxHeartbeats 4000000 in
theorem within_says (w : World) (n : Nat) (x : Value) (hn : n ≤ 4096) (f m : Int) (hf : -9223372036854775808 ≤ f ∧ f ≤ 9223372036854775807) (hm : -9223372036854775808 ≤ m ∧ m ≤ 9223372036854775807) : Calls Try.prog 21 #[.agg #[.int .i64 (n : Int), x], .int .i64 f, .int .i64 m] w fun e w' => e = .returned (.tuple #[.int .i64 (runA n f m), .int .i64 (runZ n f m)]) ∧ Below w.heap.size w w' := by
  obtain ⟨w1, hw1⟩ : ∃ y, w.alloc (.cells #[.int .i64 (n : Int), x] 25) = y := ⟨_, rfl⟩
  have hx1 : Box w1 w.heap.size 25 #[.int .i64 (n : Int), x] := by rw [← hw1]; exact Box.made w _ _
  have hB1 : Below w.heap.size w w1 := by rw [← hw1]; exact (Below.refl _ w).alloc (Nat.le_refl _) _
  have c0' := (Box.cell hx1 0).trans rfl
  have c0 : ∀ p : Grows w1, p.val.cell? ⟨w.heap.size, 0, none⟩ = some (.int .i64 (n : Int)) := fun p => (p.prop.cell (p := ⟨w.heap.size, 0, none⟩) hx1.lt).trans ((Box.cell hx1 0).trans rfl)
  have HB := Lib.hid hB1
  clear hx1 hB1
  by_cases h1 : m < 1
  · have e1 : runA n f m = 0 := by unfold runA; rw [if_pos h1]
    have e2 : runZ n f m = 0 := by unfold runZ; rw [if_pos h1]
    rw [e1, e2]
    clear e1 e2
    go_enter Try.func21, Try.ntmps21
    go_wp2
    go_ret2
    exact ⟨rfl, HB.out⟩
  · have h1' : 1 ≤ m := by omega
    by_cases h2 : 0 ≤ f
    · have w2 : IntKind.i64.wrap ((n : Int) - f) = (n : Int) - f := IntWalk.i64_in _ (by omega)
      by_cases h3 : (n : Int) - f < m
      · have e1 : runA n f m = f := by unfold runA; rw [if_neg h1, if_pos ⟨h2, h3⟩]
        have e2 : runZ n f m = n := by unfold runZ; rw [if_neg h1, if_pos ⟨h2, h3⟩]
        rw [e1, e2]
        clear e1 e2
        go_enter Try.func21, Try.ntmps21
        go_wp2_with fail
        refine wp_region_grows (by kernel_rfl) (by kernel_rfl) ?_
        iterate 5 quiet_step (fail)
        refine wpQuiet_nil ?_
        rintro w3 ⟨⟨_, hw3⟩, rfl⟩
        go_wp2
        go_ret2
        exact ⟨rfl, HB.out.trans (hw3.mono HB.out.size)⟩
      · have e1 : runA n f m = f := by unfold runA; rw [if_neg h1, if_neg (fun q => h3 q.2), if_neg (by omega)]
        have e2 : runZ n f m = f + m := by unfold runZ; rw [if_neg h1, if_neg (fun q => h3 q.2), if_neg (by omega)]
        rw [e1, e2]
        clear e1 e2
        have h4 : m ≤ (n : Int) - f := by omega
        have w3 : IntKind.i64.wrap (f + m) = f + m := IntWalk.i64_in _ (by omega)
        have m1 : max f 0 = f := by omega
        have m2 : min (f + m) (n : Int) = f + m := by omega
        go_enter Try.func21, Try.ntmps21
        go_wp2_with fail
        refine wp_region_grows (by kernel_rfl) (by kernel_rfl) ?_
        iterate 10 quiet_step (fail)
        refine wpQuiet_nil ?_
        rintro w3 ⟨⟨_, hw3⟩, rfl⟩
        go_wp2
        go_ret2
        exact ⟨rfl, HB.out.trans (hw3.mono HB.out.size)⟩
    · have h2' : f < 0 := by omega
      have h5 : decide (0 ≤ f) = false := decide_eq_false h2
      have e1 : runA n f m = 0 := by unfold runA; rw [if_neg h1, if_neg (fun q => h2 q.1), if_pos h2']
      have e2 : runZ n f m = min (f + m) (n : Int) := by
        unfold runZ
        rw [if_neg h1, if_neg (fun q => h2 q.1)]
        split <;> omega
      rw [e1, e2]
      clear e1 e2
      have w3 : IntKind.i64.wrap (f + m) = f + m := IntWalk.i64_in _ (by omega)
      have m1 : max f 0 = 0 := by omega
      go_enter Try.func21, Try.ntmps21
      go_wp2_with fail
      refine wp_region_grows (by kernel_rfl) (by kernel_rfl) ?_
      iterate 10 quiet_step (fail)
      refine wpQuiet_nil ?_
      rintro w3 ⟨⟨_, hw3⟩, rfl⟩
      go_wp2
      go_ret2
      exact ⟨rfl, HB.out.trans (hw3.mono HB.out.size)⟩
end Go.Proofs.Ytnhondkdkjehaaa
