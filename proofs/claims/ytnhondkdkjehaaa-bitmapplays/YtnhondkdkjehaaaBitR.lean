/-
  Run of package bitmap.
-/
import Derived.Test.YtnhondkdkjehaaaBitO
namespace Go.Proofs.Ytnhondkdkjehaaa
open Go.RowKit

set_option linter.unusedVariables false
set_option linter.unusedSimpArgs false
/-- Bits in a box, beside what lay. -/
structure RB (w0 w : World) (B gs n : Nat) (x : Value) (l : List UInt8) : Prop where
  bits : Box w gs 25 #[.int .i64 (n : Int), x]
  own : Own w B x l
  bel : Below w0.heap.size w0 w
theorem RB.below {w0 w w' : World} {B gs n : Nat} {x : Value} {l : List UInt8} (h : RB w0 w B gs n x l) (hb : Below w.heap.size w w') : RB w0 w' B gs n x l :=
  ⟨h.bits.below hb h.bits.lt, h.own.below hb, h.bel.trans (hb.mono h.bel.size)⟩
set_option maxRecDepth 100000 in
set_option maxHeartbeats 8000000 in
theorem brun_says (w : World) (B n : Nat) (x : Value) (l : List UInt8) (h : Own w B x l) (hl : n ≤ 8 * l.length) (hn : n ≤ 4096) (many : Int) (hm : -9223372036854775808 ≤ many ∧ many ≤ 9223372036854775807) : Calls Try.prog 14 #[.agg #[.int .i64 (n : Int), x], .int .i64 many] w fun e w' => ∃ r : Int, e = .returned (.int .i64 r) ∧ IsRun (hasB l) n many r ∧ Below w.heap.size w w' := by
  obtain ⟨w1, hw1⟩ : ∃ y, w.alloc (.cells #[.int .i64 (n : Int), x] 25) = y := ⟨_, rfl⟩
  have hx1 : Box w1 w.heap.size 25 #[.int .i64 (n : Int), x] := by rw [← hw1]; exact Box.made w _ _
  have hB1 : Below w.heap.size w w1 := by rw [← hw1]; exact (Below.refl _ w).alloc (Nat.le_refl _) _
  have H1 := Lib.hid (RB.mk hx1 (h.below hB1) hB1)
  clear h hx1 hB1
  by_cases h1 : many < 1
  · go_enter Try.func14, Try.ntmps14
    go_wp2_with fail
    go_step3
    go_wp2_with fail
    rw [Exit.noGoto_ret]
    go_ret
    exact ⟨_, rfl, .inr ⟨rfl, .inl h1⟩, H1.out.bel⟩
  · have hm1 : 1 ≤ many := by omega
    have q1 : IntKind.i64.wrap ((n : Int) - many) = (n : Int) - many := IntWalk.i64_in _ (by omega)
    go_enter Try.func14, Try.ntmps14
    go_wp2_with fail
    go_step3
    go_wp2_with fail
    go_step3
    go_wp2_with fail
    go_loopw [5] (fun v wr => ∃ k : Nat, k ≤ n ∧ v = .int .i64 (k : Int) ∧ Hid ((∀ i, i < k → ¬ freeAt (hasB l) n many i) ∧ RB w wr B w.heap.size n x l)) (fun v _ => n - (intOf v).toNat)
    case atStart => exact ⟨0, by omega, rfl, Lib.hid ⟨fun i hi => absurd hi (Nat.not_lt_zero i), H1.out⟩⟩
    case round =>
      clear H1
      obtain ⟨k, hk, rfl, H⟩ := hrel
      have c0 := (Box.cell H.out.2.bits 0).trans rfl
      by_cases hgo : (k : Int) ≤ (n : Int) - many
      · go_wp2_with fail
        clear c0
        go_loopw [5, 6] (fun v5 v wr => v5 = .int .i64 (k : Int) ∧ ∃ j : Nat, k ≤ j ∧ (j : Int) ≤ k + many ∧ v = .int .i64 (j : Int) ∧ Hid ((∀ i, k ≤ i → i < j → hasB l i = false) ∧ RB w wr B w.heap.size n x l)) (fun _ v _ => n + 1 - (intOf v).toNat)
        case atStart => exact ⟨rfl, k, Nat.le_refl _, by omega, rfl, Lib.hid ⟨fun i hi hj => by omega, H.out.2⟩⟩
        case round =>
          obtain ⟨rfl, j, hkj, hjm, rfl, G⟩ := hrel
          have q2 : IntKind.i64.wrap ((k : Int) + many) = (k : Int) + many := IntWalk.i64_in _ (by omega)
          have c0 := (Box.cell G.out.2.bits 0).trans rfl
          have c1 := (Box.cell G.out.2.bits 1).trans rfl
          by_cases hjl : (j : Int) < (k : Int) + many
          · have hin : j < n := by omega
            cases hhas : hasB l j
            · go_wp2_with (go_at_call 16; refine (bhas_says _ B n x l G.out.2.own hl hn (j : Int) (by omega)).mono ?_; rintro e wn ⟨rfl, hbn⟩; rw [show (decide (0 ≤ (j : Int) ∧ (j : Int) < (n : Int)) && hasB l (j : Int).toNat) = false by rw [Int.toNat_natCast, hhas, Bool.and_false]]; have GN := Lib.hid (G.out.2.below hbn); clear hbn)
              go_roundw
              case rel => exact ⟨rfl, j + 1, by omega, by omega, by go_num, Lib.hid ⟨fun i hi hj => by
                rcases Nat.lt_or_ge i j with q | q
                · exact G.out.1 i hi q
                · rw [show i = j by omega]
                  exact hhas, GN.out⟩⟩
              case measure => simp [intOf]; omega
            · go_wp2_with (go_at_call 16; refine (bhas_says _ B n x l G.out.2.own hl hn (j : Int) (by omega)).mono ?_; rintro e wn ⟨rfl, hbn⟩; rw [show (decide (0 ≤ (j : Int) ∧ (j : Int) < (n : Int)) && hasB l (j : Int).toNat) = true by rw [Int.toNat_natCast, hhas, decide_eq_true (by omega)]; rfl]; have GN := Lib.hid (G.out.2.below hbn); clear hbn)
              go_roundw
              case rel => exact ⟨j + 1, by omega, by go_num, Lib.hid ⟨fun i hi hf => by
                rcases Nat.lt_or_ge i k with q | q
                · exact H.out.1 i q hf
                · have := hf.2 j (by omega) (by omega)
                  rw [hhas] at this
                  exact absurd this (by decide), GN.out⟩⟩
              case measure => simp [intOf]; omega
          · go_wp2_with fail
            try rw [Exit.noGoto_ret]
            go_ret
            exact ⟨_, rfl, .inl ⟨k, rfl, hm1, ⟨by omega, fun i h1 h2 => G.out.1 i h1 (by omega)⟩, H.out.1⟩, G.out.2.bel⟩
      · go_wp2_with fail
        try rw [Exit.noGoto_ret]
        go_ret
        exact ⟨_, rfl, .inr ⟨rfl, .inr fun i hf => H.out.1 i (by have := hf.1; omega) hf⟩, H.out.2.bel⟩
end Go.Proofs.Ytnhondkdkjehaaa
