/-
  Rows are taken away from those below, column by column: it tells the rank.
-/
import Derived.Test.YtgakeecibofiiaaSweepR
namespace Go.Proofs.Ytgakeecibofiiaa
open Gf (mul inv sum idm mm Eqm IsRank)

/-- Stairs, as far as c columns: n rows lead. -/
structure Stair (N c n : Nat) (E : Gf.Mat) (piv : Nat → Nat) : Prop where
  le : n ≤ N
  lt : ∀ t, t < n → piv t < c ∧ E t (piv t) ≠ 0
  low : ∀ s t, s < t → t < n → E t (piv s) = 0
  zero : ∀ i, n ≤ i → i < N → ∀ j, j < c → E i j = 0
theorem stair_zero (N : Nat) (E : Gf.Mat) : Stair N 0 0 E (fun _ => 0) := ⟨Nat.zero_le _, fun _ ht => absurd ht (Nat.not_lt_zero _), fun _ _ _ ht => absurd ht (Nat.not_lt_zero _), fun _ _ _ _ hj => absurd hj (Nat.not_lt_zero _)⟩
theorem stair_none {N c n : Nat} {E : Gf.Mat} {piv : Nat → Nat} (h : Stair N c n E piv) (hz : ∀ i, n ≤ i → i < N → E i c = 0) : Stair N (c + 1) n E piv :=
  ⟨h.le, fun t ht => ⟨Nat.lt_succ_of_lt (h.lt t ht).1, (h.lt t ht).2⟩, h.low, fun i h1 h2 j hj => by
    rcases Nat.lt_or_ge j c with h3 | h3
    · exact h.zero i h1 h2 j h3
    · rw [show j = c by omega]; exact hz i h1 h2⟩
/-- Which row stands at place i, once n and p are swapped. -/
def swpN (n p i : Nat) : Nat := if i = n then p else if i = p then n else i
/-- One column: row p to place n, and its multiples to those below. -/
theorem stair_step {N c n p : Nat} {E E2 : Gf.Mat} {piv : Nat → Nat} (h : Stair N c n E piv) (hp : n ≤ p ∧ p < N) (hne : E p c ≠ 0)
    (h2 : ∀ i, i < N → ∀ j, E2 i j = if n < i then E (swpN n p i) j ^^^ mul (mul (E (swpN n p i) c) (inv (E p c))) (E p j) else E (swpN n p i) j) :
    ∃ piv', Stair N (c + 1) (n + 1) E2 piv' := by
  have hnN : n < N := by omega
  have hn : ∀ j, E2 n j = E p j := fun j => by rw [h2 n hnN, if_neg (Nat.lt_irrefl _), swpN, if_pos rfl]
  have hsm : ∀ i, i < n → ∀ j, E2 i j = E i j := fun i hi j => by rw [h2 i (by omega), if_neg (by omega), swpN, if_neg (by omega), if_neg (by omega)]
  refine ⟨fun t => if t < n then piv t else c, ⟨by omega, fun t ht => ?_, fun s t hst ht => ?_, fun i hi hiN j hj => ?_⟩⟩
  · by_cases htn : t < n
    · simp only [htn, if_true]
      rw [hsm t htn]
      exact ⟨Nat.lt_succ_of_lt (h.lt t htn).1, (h.lt t htn).2⟩
    · simp only [htn, if_false]
      obtain rfl : t = n := by omega
      rw [hn]
      exact ⟨Nat.lt_succ_self _, hne⟩
  · have hsn : s < n := by omega
    simp only [hsn, if_true]
    by_cases htn : t < n
    · rw [hsm t htn]
      exact h.low s t hst htn
    · obtain rfl : t = n := by omega
      rw [hn]
      exact h.zero p hp.1 hp.2 _ (h.lt s hsn).1
  · have hsg1 : n ≤ swpN n p i ∧ swpN n p i < N := by
      unfold swpN
      split
      · omega
      · split <;> omega
    rw [h2 i hiN, if_pos (by omega)]
    rcases Nat.lt_or_ge j c with h3 | h3
    · rw [h.zero _ hsg1.1 hsg1.2 j h3, h.zero p hp.1 hp.2 j h3, Gf.mul_zero, Gf.add_self]
    · obtain rfl : j = c := by omega
      rw [Gf.mul_assoc, Gf.inv_mul hne, Gf.mul_one, Gf.add_self]
theorem step_both {N c n p J : Nat} {E E2 : Gf.Mat} (hp : n ≤ p ∧ p < N)
    (h2 : ∀ i, i < N → ∀ j, E2 i j = if n < i then E (swpN n p i) j ^^^ mul (mul (E (swpN n p i) c) (inv (E p c))) (E p j) else E (swpN n p i) j) : Both N J E E2 := by
  have hnN : n < N := by omega
  have hsw : ∀ i, i < N → swpN n p i < N := fun i hi => by
    unfold swpN
    split
    · omega
    · split <;> omega
  have hn : ∀ j, E2 n j = E p j := fun j => by rw [h2 n hnN, if_neg (Nat.lt_irrefl _), swpN, if_pos rfl]
  have hlead : Span N J E2 (fun j => E p j) := span_congr (span_row hnN) (fun j _ => (hn j).symm)
  refine ⟨fun i hi => ?_, fun i hi => ?_⟩
  · by_cases hin : n < i
    · refine span_congr (span_add (span_row (hsw i hi)) (span_mul (span_row hp.2) (mul (E (swpN n p i) c) (inv (E p c))))) (fun j _ => ?_)
      rw [h2 i hi, if_pos hin]
    · refine span_congr (span_row (hsw i hi)) (fun j _ => ?_)
      rw [h2 i hi, if_neg hin]
  · obtain ⟨i', hi', hs⟩ : ∃ i', i' < N ∧ swpN n p i' = i := by
      refine ⟨swpN n p i, hsw i hi, ?_⟩
      unfold swpN
      split
      · rename_i e
        by_cases e2 : p = n
        · rw [if_pos e2]; omega
        · rw [if_neg e2, if_pos rfl, e]
      · split
        · rename_i e1 e2
          rw [if_pos rfl, e2]
        · rfl
    by_cases hin : n < i'
    · refine span_congr (span_add (span_row hi') (span_mul hlead (mul (E i c) (inv (E p c))))) (fun j _ => ?_)
      rw [h2 i' hi', if_pos hin, hs, Gf.add_assoc, Gf.add_self, Gf.add_zero]
    · refine span_congr (span_row hi') (fun j _ => ?_)
      rw [h2 i' hi', if_neg hin, hs]
/-- Both have one rank. -/
theorem Both.rank {N L r : Nat} {A E : Gf.Mat} (hB : Both N L A E) {piv : Nat → Nat} (hE : Stair N L r E piv) : IsRank N L A r := by
  have h1 : IsRank N L E r := Gf.rank_of_stairs piv hE.le hE.zero hE.lt hE.low
  obtain ⟨Y, hY⟩ := span_all hB.1
  obtain ⟨X, hX⟩ := span_all hB.2
  obtain ⟨P, P', Q, Q', h2, h3, h4⟩ := h1
  -- A = X E = (X P) Q, and P' Y takes X P back
  refine ⟨mm N X P, mm N P' Y, Q, Q', fun i hi j hj => ?_, fun i hi j hj => ?_, h4⟩
  · rw [hX i hi j hj, Gf.mm_assoc]
    exact Gf.sum_congr (fun k hk => by rw [h2 k hk j hj])
  · -- (P' Y) (X P): by Q' from the right, Y X E = E
    have e1 : ∀ a, a < N → ∀ b, b < L → mm N Y (mm N X E) a b = E a b := fun a ha b hb => by
      have : mm N Y (mm N X E) a b = mm N Y A a b := Gf.sum_congr (fun k hk => by rw [hX k hk b hb])
      rw [this, ← hY a ha b hb]
    have e2 : ∀ a, a < N → ∀ b, b < r → P a b = mm L E Q' a b := fun a ha b hb => by
      have h5 : mm L E Q' a b = mm L (mm r P Q) Q' a b := Gf.sum_congr (fun k hk => by rw [h2 a ha k hk])
      rw [h5, Gf.mm_assoc]
      have h6 : mm r P (mm L Q Q') a b = mm r P idm a b := Gf.sum_congr (fun k hk => by rw [h4 k hk b hb])
      rw [h6, Gf.mm_id r P a b hb]
    have e3 : ∀ a, a < N → ∀ b, b < r → mm N Y (mm N X P) a b = P a b := fun a ha b hb => by
      have h5 : mm N Y (mm N X P) a b = mm N Y (mm N X (mm L E Q')) a b := Gf.sum_congr (fun k hk => by
        congr 1
        exact Gf.sum_congr (fun t ht => by rw [e2 t ht b hb]))
      rw [h5]
      have h6 : mm N Y (mm N X (mm L E Q')) a b = mm L (mm N Y (mm N X E)) Q' a b := by
        rw [Gf.mm_assoc]
        exact Gf.sum_congr (fun k hk => by rw [Gf.mm_assoc])
      rw [h6, e2 a ha b hb]
      exact Gf.sum_congr (fun k hk => by rw [e1 a ha k hk])
    rw [Gf.mm_assoc, ← h3 i hi j hj]
    exact Gf.sum_congr (fun k hk => by rw [e3 k hk j hj])
end Go.Proofs.Ytgakeecibofiiaa
