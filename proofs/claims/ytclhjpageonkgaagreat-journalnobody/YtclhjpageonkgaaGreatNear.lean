/-
  Blocks on which another one was begun: what opening them comes to. No statement about the program stands here.
-/
import Derived.Test.YtclhjpageonkgaaGreatSlA
namespace Go.Proofs.YtclhjpageonkgaaGreat
open Go.RowKit

set_option linter.unusedVariables false

/-- A block that is none of the mark m: its end is not m's, and its beginning, with some first bytes of m's, is its end only if it was so. -/
def Near (m : Mk) (y : List UInt8) : Prop :=
  y.length = 256 ∧ y.drop 239 ≠ m.bytes ∧ ∀ k, k ≤ 17 → m.bytes.take k ++ (y.take 17).drop k = y.drop 239 → (markAt (y.drop 239)).may = false ∨ m.bytes.take k ++ (y.take 17).drop k = y.take 17
theorem near_zero (m : Mk) (hm : m.may = true) : Near m (List.replicate 256 0) := by
  refine ⟨List.length_replicate, ?_, fun k _ _ => .inl rfl⟩
  intro h
  rw [List.drop_replicate] at h
  have h0 : m.bytes.head? = some m.kind := rfl
  rw [← h] at h0
  simp at h0
  rw [Mk.may, ← h0] at hm
  simp at hm
theorem near_sealed (m o : Mk) (c : List UInt8) (hc : c.length ≤ 220) (hne : o ≠ m) : Near m (sealed o c) := by
  obtain ⟨h1, h2⟩ := sealed_tail o c hc
  refine ⟨sealed_length o c hc, ?_, fun k _ h => .inr ?_⟩
  · rw [h1]
    exact fun e => hne (bytes_inj e)
  · rw [h, h1, h2]
theorem opens_ends {l : List UInt8} (hl : l.length = 256) (h : opens l ≠ none) : l.take 17 = l.drop 239 ∧ (markAt (l.drop 239)).may = true := by
  cases ho : opens l with
  | none => exact absurd ho h
  | some z =>
    obtain ⟨m, b⟩ := z
    obtain ⟨hm, hb, rfl⟩ := opens_some hl ho
    obtain ⟨h1, h2⟩ := sealed_tail m b hb
    refine ⟨by rw [h1, h2], ?_⟩
    rw [h1]
    have := markAt_bytes m []
    rw [List.append_nil] at this
    rw [this]
    exact hm
theorem torn_take {x y : List UInt8} {m : Mk} (hx : x.length = 256) (hy : y.length = 256) (hxt : x.take 17 = m.bytes) (k : Nat) (hk : k ≤ 256) : (torn x y k).take 17 = m.bytes.take (min k 17) ++ (y.take 17).drop (min k 17) := by
  rw [torn, ← hxt, List.take_take, List.drop_take, List.take_append, List.take_take, List.length_take, hx]
  rw [show min (min k 17) 17 = min 17 k by omega, show min k 256 = k by omega]
  rcases Nat.lt_or_ge k 17 with h | h
  · rw [show min k 17 = k by omega]
  · rw [show min k 17 = 17 by omega, show 17 - k = 0 by omega, List.take_zero, Nat.sub_self, List.take_zero]
theorem torn_drop {x y : List UInt8} {m : Mk} (hx : x.length = 256) (hy : y.length = 256) (hxd : x.drop 239 = m.bytes) (k : Nat) (hk : k ≤ 256) : (torn x y k).drop 239 = m.bytes.take (k - 239) ++ (y.drop 239).drop (k - 239) := by
  rw [torn, ← hxd, List.drop_append, List.length_take, hx, List.drop_drop, List.take_drop, show min k 256 = k by omega, List.drop_drop]
  rcases Nat.lt_or_ge 239 k with h | h
  · rw [show 239 + (k - 239) = k by omega, show 239 - k = 0 by omega, Nat.add_zero]
  · have z1 : List.drop 239 (List.take k x) = [] := List.drop_eq_nil_of_le (by rw [List.length_take]; omega)
    have z2 : List.drop 239 (List.take 239 x) = [] := List.drop_eq_nil_of_le (by rw [List.length_take]; omega)
    rw [show k - 239 = 0 by omega, Nat.add_zero, show k + (239 - k) = 239 by omega, z1, z2]
theorem near_torn {m : Mk} {b y : List UInt8} (hb : b.length ≤ 220) (h : Near m y) (k : Nat) (hk : k ≤ 256) :
    torn (sealed m b) y k = sealed m b ∨ (Near m (torn (sealed m b) y k) ∧ (opens (torn (sealed m b) y k) = none ∨ torn (sealed m b) y k = y)) := by
  obtain ⟨hyl, hE, hI⟩ := h
  have hxl := sealed_length m b hb
  obtain ⟨hxd, hxt⟩ := sealed_tail m b hb
  obtain ⟨x, hx⟩ : ∃ x, sealed m b = x := ⟨_, rfl⟩
  rw [hx] at hxl hxd hxt ⊢
  have hml := m.bytes_length
  have ht := torn_take hxl hyl hxt k hk
  have hd := torn_drop hxl hyl hxd k hk
  have htl := torn_length hxl hyl k hk
  have hyt : (y.take 17).length = 17 := by rw [List.length_take]; omega
  by_cases hfull : (torn x y k).drop 239 = m.bytes
  · -- its end is m's: it is x
    left
    have hk9 : 239 < k := by
      rcases Nat.lt_or_ge 239 k with h | h
      · exact h
      · rw [hd, show k - 239 = 0 by omega, List.take_zero, List.nil_append, List.drop_zero] at hfull
        exact absurd hfull hE
    have h1 : (torn x y k).take 239 = x.take 239 := by
      rw [torn, List.take_append, List.take_take, List.length_take, hxl, show min 239 k = 239 by omega, show 239 - min k 256 = 0 by omega, List.take_zero, List.append_nil]
    rw [← List.take_append_drop 239 (torn x y k), h1, hfull, ← hxd, List.take_append_drop]
  · right
    -- what the beginning comes to
    have key : ∀ j, j ≤ 17 → m.bytes.take j ++ ((torn x y k).take 17).drop j = (torn x y k).drop 239 → (markAt ((torn x y k).drop 239)).may = false ∨ (m.bytes.take j ++ ((torn x y k).take 17).drop j = (torn x y k).take 17 ∧ torn x y k = y) := by
      intro j hj he
      obtain ⟨q, hq⟩ : ∃ q, min k 17 = q := ⟨_, rfl⟩
      have hq17 : q ≤ 17 := by omega
      have hmq : (m.bytes.take q).length = q := by rw [List.length_take]; omega
      have e1 : m.bytes.take j ++ ((torn x y k).take 17).drop j = m.bytes.take (max j q) ++ (y.take 17).drop (max j q) := by
        rw [ht, hq, List.drop_append, hmq]
        rcases Nat.lt_or_ge j q with h | h
        · rw [show max j q = q by omega, show j - q = 0 by omega, List.drop_zero, ← List.append_assoc]
          congr 1
          rw [List.drop_take, ← List.take_add, show j + (q - j) = q by omega]
        · rw [show max j q = j by omega, List.drop_eq_nil_of_le (by omega), List.nil_append, List.drop_drop, show q + (j - q) = j by omega]
      rcases Nat.lt_or_ge 239 k with h9 | h9
      · -- the beginning is m's
        exfalso
        apply hfull
        rw [← he, e1, show max j q = 17 by omega, List.take_of_length_le (by omega), List.drop_eq_nil_of_le (by omega), List.append_nil]
      · have hd' : (torn x y k).drop 239 = y.drop 239 := by rw [hd, show k - 239 = 0 by omega, List.take_zero, List.nil_append, List.drop_zero]
        rw [e1, hd'] at he
        rcases hI (max j q) (by omega) he with hz | hz
        · exact .inl (by rw [hd']; exact hz)
        · right
          -- the first bytes are those that were there
          have hmx : m.bytes.take (max j q) = (y.take 17).take (max j q) := by
            have := congrArg (List.take (max j q)) hz
            rwa [List.take_append_of_le_length (by rw [List.length_take]; omega), List.take_take, Nat.min_self] at this
          have hmq' : m.bytes.take q = (y.take 17).take q := by
            have := congrArg (List.take q) hmx
            rwa [List.take_take, List.take_take, show min q (max j q) = q by omega] at this
          have ht' : (torn x y k).take 17 = y.take 17 := by rw [ht, hq, hmq', List.take_append_drop]
          refine ⟨by rw [e1, hz, ht'], ?_⟩
          rcases Nat.lt_or_ge k 17 with h17 | h17
          · have hkq : q = k := by omega
            have hxk : x.take k = y.take k := by
              have a1 : x.take k = m.bytes.take k := by rw [← hxt, List.take_take, show min k 17 = k by omega]
              rw [a1, ← hkq, hmq', List.take_take, show min q 17 = q by omega]
            rw [torn, hxk, List.take_append_drop]
          · exfalso
            have hq' : q = 17 := by omega
            apply hE
            rw [← he, show max j q = 17 by omega, List.take_of_length_le (by omega), List.drop_eq_nil_of_le (by omega), List.append_nil]
    refine ⟨⟨htl, hfull, fun j hj he => (key j hj he).imp id And.left⟩, ?_⟩
    by_cases ho : opens (torn x y k) = none
    · exact .inl ho
    · right
      obtain ⟨e1, e2⟩ := opens_ends htl ho
      rcases key 0 (by omega) (by rw [List.take_zero, List.nil_append, List.drop_zero]; exact e1) with h | h
      · rw [h] at e2
        cases e2
      · exact h.2
end Go.Proofs.YtclhjpageonkgaaGreat
