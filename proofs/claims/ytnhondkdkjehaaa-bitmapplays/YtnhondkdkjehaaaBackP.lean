/-
  BitmapBack's facts, plainly. No statement about the program stands here.
-/
import Derived.Test.YtnhondkdkjehaaaBitF
namespace Go.Proofs.Ytnhondkdkjehaaa
open Go.RowKit

set_option linter.unusedVariables false
theorem howMany_nat (n : Nat) (h : n ≤ 4096) : howMany (n : Int) = n := by
  have := howMany_eq (n : Int)
  omega
theorem bits_and255 (n : Int) : ∃ m : Nat, m ≤ 255 ∧ bits .and .i64 n 255 = (m : Int) := by
  have hle : (BitVec.ofInt 64 n &&& BitVec.ofInt 64 255).toNat ≤ 255 := by
    rw [BitVec.toNat_and]
    exact Nat.le_trans Nat.and_le_right (by decide)
  refine ⟨(BitVec.ofInt 64 n &&& BitVec.ofInt 64 255).toNat, hle, ?_⟩
  show IntKind.i64.wrap (((BitVec.ofInt 64 n &&& BitVec.ofInt 64 255).toNat : Nat) : Int) = _
  exact IntWalk.i64_in _ (by omega)
theorem bits_and7 (n : Int) : ∃ m : Nat, m ≤ 7 ∧ bits .and .i64 n 7 = (m : Int) := by
  have hle : (BitVec.ofInt 64 n &&& BitVec.ofInt 64 7).toNat ≤ 7 := by
    rw [BitVec.toNat_and]
    exact Nat.le_trans Nat.and_le_right (by decide)
  refine ⟨(BitVec.ofInt 64 n &&& BitVec.ofInt 64 7).toNat, hle, ?_⟩
  show IntKind.i64.wrap (((BitVec.ofInt 64 n &&& BitVec.ofInt 64 7).toNat : Nat) : Int) = _
  exact IntWalk.i64_in _ (by omega)
section
variable {n m i : Nat} {l : List UInt8}
theorem back_in (k : Nat) (h : i + m ≤ n) : inRun n i m k = decide (i ≤ k ∧ k < i + m) := by
  unfold inRun
  exact decide_eq_decide.2 (by omega)
theorem back_with (hc : Cut n l) (h : i + m ≤ n) (k : Nat) : hasB (withA n l i m) k = (decide (i ≤ k ∧ k < i + m) || hasB l k) := by
  rw [hasB_withA _ _ _ _ _ hc.room, back_in k h]
theorem back_wout (hc : Cut n l) (hf : freeAt (hasB l) n m i) : woutA n (withA n l i m) i m = l := by
  have h : i + m ≤ n := by have := hf.1; omega
  refine ((hc.with i m).wout i m).eq hc (fun k _ => ?_)
  rw [hasB_woutA _ _ _ _ _ (hc.with i m).room, back_with hc h, back_in k h]
  by_cases hk : i ≤ k ∧ k < i + m
  · rw [decide_eq_true hk, hf.2 k hk.1 (by omega)]
    rfl
  · rw [decide_eq_false hk]
    simp
theorem back_used (hc : Cut n l) (hf : freeAt (hasB l) n m i) : usedL (withA n l i m) = usedL l + m := by
  have h : i + m ≤ n := by have := hf.1; omega
  rw [(hc.with i m).used, hc.used]
  exact countP_run _ _ n i m h (back_with hc h) (fun k h1 h2 => hf.2 k h1 (by omega))
theorem back_run (hc : Cut n l) (hm : 1 ≤ m) (hf : freeAt (hasB l) n m i) (hj : ∀ j, j < i → ¬ freeAt (hasB l) n m j) {r : Int} (hr : IsRun (hasB (withA n l i m)) n m r) : r = -1 ∨ (i : Int) < r := by
  have h : i + m ≤ n := by have := hf.1; omega
  rcases hr with ⟨j, rfl, h1, h2, h3⟩ | ⟨rfl, _⟩
  · right
    have hj' : freeAt (hasB l) n m j := ⟨h2.1, fun k k1 k2 => by
      have := h2.2 k k1 k2
      rw [back_with hc h] at this
      cases hq : hasB l k
      · rfl
      · rw [hq, Bool.or_true] at this
        cases this⟩
    rcases Nat.lt_trichotomy j i with q | q | q
    · exact absurd hj' (hj j q)
    · subst q
      have := h2.2 j (Nat.le_refl _) (by omega)
      rw [back_with hc h, decide_eq_true (by omega)] at this
      cases this
    · omega
  · exact .inl rfl
end
theorem least_ex (P : Nat → Prop) : ∀ n, (∃ i, i < n ∧ P i ∧ ∀ j, j < i → ¬ P j) ∨ ∀ i, i < n → ¬ P i
  | 0 => .inr fun i hi => absurd hi (Nat.not_lt_zero i)
  | n + 1 => by
    rcases least_ex P n with ⟨i, h1, h2, h3⟩ | h
    · exact .inl ⟨i, Nat.lt_succ_of_lt h1, h2, h3⟩
    · rcases Classical.em (P n) with hp | hp
      · exact .inl ⟨n, Nat.lt_succ_self n, hp, h⟩
      · exact .inr fun i hi => by
          rcases Nat.lt_succ_iff_lt_or_eq.1 hi with q | rfl
          · exact h i q
          · exact hp
theorem isRun_ex (f : Nat → Bool) (n : Nat) (many : Int) : ∃ r, IsRun f n many r := by
  by_cases hm : many < 1
  · exact ⟨-1, .inr ⟨rfl, .inl hm⟩⟩
  · rcases least_ex (freeAt f n many) (n + 1) with ⟨i, _, h2, h3⟩ | h
    · exact ⟨i, .inl ⟨i, rfl, by omega, h2, h3⟩⟩
    · exact ⟨-1, .inr ⟨rfl, .inr fun i hf => h i (by have := hf.1; omega) hf⟩⟩
theorem RB.cells {w0 w : World} {B gs n : Nat} {x : Value} {l : List UInt8} (h : RB w0 w B gs n x l) : w.cell? ⟨gs, 0, none⟩ = some (.int .i64 (n : Int)) ∧ w.cell? ⟨gs, 1, none⟩ = some x := ⟨(Box.cell h.bits 0).trans rfl, (Box.cell h.bits 1).trans rfl⟩
end Go.Proofs.Ytnhondkdkjehaaa
