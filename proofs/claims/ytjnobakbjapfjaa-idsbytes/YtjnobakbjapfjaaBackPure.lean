/-
  What is read of a set's own bytes, in plain mathematics.
-/
import Derived.Test.YtjnobakbjapfjaaReadIds
import Derived.Test.YtjnobakbjapfjaaLPutBase
namespace Go.Proofs.Ytjnobakbjapfjaa
open Lay (St stSmall stSmallV stRaw stRawV stEnd stNum stNumV encNum)

/-- A set's bytes. -/
def putL (xs : List Id) : List UInt8 := encNum xs.length ++ fb xs

theorem stNum_enc (n : Nat) (h : n < 18446744073709551616) (t : List UInt8) : stNum (encNum n ++ t, 0) = (t, 0) ∧ stNumV (encNum n ++ t, 0) = n := by
  obtain ⟨h1, _, h2, h3⟩ := Lay.numErr_enc n h t
  simp [stNum, stNumV, h1, h2, h3]
theorem small_fits (n : Nat) (h : n < 18446744073709551616) (t : List UInt8) (most : Int) (hm : (n : Int) ≤ most) : stSmall most (encNum n ++ t, 0) = (t, 0) ∧ stSmallV most (encNum n ++ t, 0) = n := by
  obtain ⟨h1, h2⟩ := stNum_enc n h t
  have h3 : Lay.tooBig most n = false := by simp [Lay.tooBig]; omega
  simp [stSmall, stSmallV, h1, h2, h3]
theorem small_big (n : Nat) (h : n < 18446744073709551616) (t : List UInt8) (most : Int) (hm : most < (n : Int)) : stSmall most (encNum n ++ t, 0) = ([], 3) ∧ stSmallV most (encNum n ++ t, 0) = 0 := by
  obtain ⟨h1, h2⟩ := stNum_enc n h t
  have h3 : Lay.tooBig most n = true := by simp [Lay.tooBig]; omega
  simp [stSmall, stSmallV, h1, h2, h3]
theorem raw_id (x : Id) (r : List UInt8) : stRaw 32 (x.1 ++ r, 0) = (r, 0) ∧ idOf (stRawV 32 (x.1 ++ r, 0)) = x := by
  have hx := x.2
  have h1 : ¬ ((x.1 ++ r).length : Int) < 32 := by rw [List.length_append]; omega
  constructor
  · simp only [stRaw, h1, if_true, if_false]
    rw [if_neg (by omega)]
    have : (x.1 ++ r).drop 32 = r := List.drop_left' hx
    simpa using this
  · have : (x.1 ++ r).take 32 = x.1 := List.take_left' hx
    have e : stRawV 32 (x.1 ++ r, 0) = x.1 := by
      simp only [stRawV, h1, if_true, if_false]
      rw [if_neg (by omega)]
      simpa using this
    rw [e, idOf, dif_pos hx]
theorem rdIds_all : ∀ (xs : List Id) (r : List UInt8) (acc : List Id), rdIds xs.length (fb xs ++ r, 0) acc = (acc ++ xs, (r, 0))
  | [], r, acc => by simp [rdIds, fb]
  | x :: xs, r, acc => by
    obtain ⟨h1, h2⟩ := raw_id x (fb xs ++ r)
    rw [List.length_cons, rdIds, if_pos rfl, fb_cons, List.append_assoc, h1, h2, rdIds_all xs r]
    simp
/-- Cut short within the last id. -/
theorem rdIds_cut : ∀ (xs : List Id) (t : List UInt8) (acc : List Id), t.length < 32 → (rdIds (xs.length + 1) (fb xs ++ t, 0) acc).2 = ([], 10)
  | [], t, acc, h => by
    have h1 : (t.length : Int) < 32 := by omega
    rw [List.length_nil, Nat.zero_add, fb_nil, List.nil_append, rdIds, if_pos rfl]
    have : stRaw 32 (t, 0) = ([], 10) := by
      simp only [stRaw, h1, if_true]
      rw [if_neg (by omega)]
    rw [this]
    rfl
  | x :: xs, t, acc, h => by
    obtain ⟨h1, h2⟩ := raw_id x (fb xs ++ t)
    rw [List.length_cons, rdIds, if_pos rfl, fb_cons, List.append_assoc, h1, h2]
    exact rdIds_cut xs t _ h

/-- A set that rises is read as it was. -/
theorem read_back (xs : List Id) (hr : Rises xs) (hn : xs.length < 18446744073709551616) (most : Int) (hm : (xs.length : Int) ≤ most) : readL (putL xs) most = (xs, 0) := by
  obtain ⟨h1, h2⟩ := small_fits xs.length hn (fb xs) most hm
  have h3 := rdIds_all xs [] []
  rw [List.append_nil] at h3
  exact readL_ok h2 h1 (by simpa using h3) (by simp [stEnd]) (decide_eq_true hr)
/-- Of more ids than may be. -/
theorem read_big (xs : List Id) (hn : xs.length < 18446744073709551616) (most : Int) (hm : most < (xs.length : Int)) : (readL (putL xs) most).2 = 3 := by
  obtain ⟨h1, h2⟩ := small_big xs.length hn (fb xs) most hm
  rw [putL, readL_err h2 h1 (acc := []) (q := ([], 3)) rfl (by simp [stEnd])]
  simp [stEnd]
/-- With one byte more. -/
theorem read_more (xs : List Id) (hn : xs.length < 18446744073709551616) (b : UInt8) (most : Int) (hm : (xs.length : Int) ≤ most) : (readL (putL xs ++ [b]) most).2 = 11 := by
  obtain ⟨h1, h2⟩ := small_fits xs.length hn (fb xs ++ [b]) most hm
  have h3 := rdIds_all xs [b] []
  rw [putL, List.append_assoc, readL_err h2 h1 (acc := xs) (q := ([b], 0)) (by simpa using h3) (by simp [stEnd])]
  simp [stEnd]
/-- Cut by a byte. -/
theorem read_less (xs : List Id) (hn : xs.length < 256) (most : Int) (hm : (xs.length : Int) ≤ most) : (readL ((putL xs).take ((putL xs).length - 1)) most).2 ≠ 0 := by
  rcases List.eq_nil_or_concat xs with rfl | ⟨ys, z, rfl⟩
  · have e : (putL []).take ((putL []).length - 1) = [] := by decide +kernel
    rw [e]
    have h1 : stSmallV most ([], 0) = 0 := by simp [stSmallV, stNum, numErr]
    have h2 : stSmall most ([], 0) = (numRest [], 10) := by simp [stSmall, stNum, numErr]
    rw [readL_err h1 h2 (acc := []) (q := (numRest [], 10)) rfl (by simp [stEnd])]
    simp [stEnd]
  · have hz := z.2
    have e : (putL (ys ++ [z])).take ((putL (ys ++ [z])).length - 1) = encNum (ys ++ [z]).length ++ (fb ys ++ z.1.take 31) := by
      have hf : fb (ys ++ [z]) = fb ys ++ z.1 := by simp [fb]
      rw [putL, hf, ← List.append_assoc, List.length_append, hz, show ((encNum (ys ++ [z]).length ++ fb ys).length + 32 - 1) = (encNum (ys ++ [z]).length ++ fb ys).length + 31 by omega, List.take_append, List.take_of_length_le (by omega), Nat.add_sub_cancel_left, List.append_assoc]
    rw [List.concat_eq_append] at hn hm ⊢
    rw [e]
    obtain ⟨h1, h2⟩ := small_fits (ys ++ [z]).length (by omega) (fb ys ++ z.1.take 31) most hm
    have h3 := rdIds_cut ys (z.1.take 31) [] (by rw [List.length_take]; omega)
    obtain ⟨acc, q, hq⟩ : ∃ acc q, rdIds (ys.length + 1) (fb ys ++ z.1.take 31, 0) [] = (acc, q) := ⟨_, _, rfl⟩
    rw [hq] at h3
    have h3' : q = ([], 10) := h3
    rw [readL_err h2 h1 (acc := acc) (q := q) (by rw [List.length_append]; exact hq) (by rw [h3']; simp [stEnd]), h3']
    simp [stEnd]
end Go.Proofs.Ytjnobakbjapfjaa
