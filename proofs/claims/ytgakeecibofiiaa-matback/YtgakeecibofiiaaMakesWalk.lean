/-
  MatMakes walked.
-/
import Derived.Test.YtgakeecibofiiaaLawOne
import Derived.Test.YtgakeecibofiiaaRefMake
namespace Go.Proofs.Ytgakeecibofiiaa
open Go.RowKit Go.Shelf

theorem one_alike (n : Nat) : matBy n n oneF = oneL n := by
  unfold matBy oneL
  refine List.map_congr_left (fun i _ => ?_)
  apply List.ext_getElem?
  intro j
  by_cases hj : j < n
  · rw [byRule_at n _ j hj]
    unfold oneRow oneF
    by_cases h : i = j
    · subst h
      rw [List.getElem?_set_self (by simpa using hj), if_pos rfl]
    · rw [List.getElem?_set_ne h, if_neg h]
      simp [hj]
  · rw [List.getElem?_eq_none (by rw [byRule_length]; omega), List.getElem?_eq_none (by rw [oneRow_length]; omega)]
theorem cau_alike (n m : Nat) : matBy n m (cauF m) = cauL n m := rfl

set_option maxRecDepth 100000 in
set_option maxHeartbeats 4000000 in
theorem matMakes_walk (rows cols : Int) (hrng : -9223372036854775808 ≤ rows ∧ rows ≤ 9223372036854775807) (hrng2 : -9223372036854775808 ≤ cols ∧ cols ≤ 9223372036854775807) (w : World) : Calls Try.prog 4 #[.int .i64 rows, .int .i64 cols] w fun e w' => e = .returned (.bool true) ∧ Below w.heap.size w w' := by
  by_cases ha : 1 ≤ rows ∧ rows ≤ 255
  · obtain ⟨n, rfl⟩ : ∃ n : Nat, rows = (n : Int) := ⟨rows.toNat, by omega⟩
    have ha : 1 ≤ n ∧ n ≤ 255 := by omega
    have g1 : (1 : Int) ≤ (n : Int) := by omega
    have g2 : (n : Int) ≤ 255 := by omega
    by_cases hb : cauOk (n : Int) cols
    · obtain ⟨m, rfl⟩ : ∃ m : Nat, cols = (m : Int) := ⟨cols.toNat, by have := hb.2.1; omega⟩
      have hb1 := hb.2.1
      have hb2 := hb.2.2
      have g3 : (1 : Int) ≤ (m : Int) := by omega
      have g4 : (m : Int) ≤ 255 := by omega
      have g5 : (n : Int) + (m : Int) ≤ 256 := by omega
      have g6 : IntKind.i64.wrap ((n : Int) + (m : Int)) = (n : Int) + (m : Int) := IntWalk.i64_in _ (by omega)
      by_cases h40 : (n : Int) ≤ 40
      · by_cases h12 : (n : Int) ≤ 12
        · by_cases k12 : (m : Int) ≤ 12
          · go_enter Try.func4, Try.ntmps4
            go_wp2_with (first
              | (go_at_call 11; refine (new_says _).mono ?_; rintro e w1 ⟨P, rfl, hb1⟩; have HB1 := Lib.hid hb1; clear hb1)
              | (go_at_call 23; refine (one_yes n ha _).mono ?_; rintro e w2 ⟨A2, n2, c2, rfl, hm2, hb2⟩; have HM2 := Lib.hid hm2; have HB2 := Lib.hid (HB1.out.trans (hb2.mono HB1.out.size)); clear hb2 hm2)
              | (go_at_call 24; refine (cauchy_yes P n m hb _).mono ?_; rintro e w3 ⟨A3, n3, c3, rfl, hm3, hb3⟩; have HM3 := Lib.hid hm3; have HB23 := Lib.hid hb3; have HB3 := Lib.hid (HB2.out.trans (hb3.mono HB2.out.size)); clear hb3 hm3)
              | (go_at_call 25; refine (roneM_says _ n (by omega)).mono ?_; rintro e w4 ⟨v4, rfl, hm4, hb4⟩; obtain ⟨A4, c4, rfl, hx4⟩ := hm4.mtx; have HM4 := Lib.hid (And.intro hx4 (HM2.out.below (HB23.out.trans (hb4.mono HB23.out.size)))); have HB34 := Lib.hid hb4; have HB4 := Lib.hid (HB3.out.trans (hb4.mono HB3.out.size)); clear hb4 hm4 hx4)
              | (go_at_call 14; with_reducible refine ((rsameM_says _ A2 n2 c2 _ HM4.out.2 A4 _ c4 _ HM4.out.1 (by rw [← HM4.out.2.len, matBy_length]; omega)).mono ?_); rintro e w5 ⟨rfl, hb5⟩; rw [decide_eq_true (one_alike n)]; have HB45 := Lib.hid (HB34.out.trans (hb5.mono HB34.out.size)); have HB5 := Lib.hid (HB4.out.trans (hb5.mono HB4.out.size)); clear hb5)
              | (go_at_call 26; refine (rcauchy_says _ n m (by omega) (by omega) (by omega)).mono ?_; rintro e w6 ⟨v6, rfl, hm6, hb6⟩; obtain ⟨A6, c6, rfl, hx6⟩ := hm6.mtx; have HM6 := Lib.hid (And.intro hx6 (HM3.out.below (HB45.out.trans (hb6.mono HB45.out.size)))); have HB6 := Lib.hid (HB5.out.trans (hb6.mono HB5.out.size)); clear hb6 hm6 hx6)
              | (go_at_call 14; with_reducible refine ((rsameM_says _ A3 n3 c3 _ HM6.out.2 A6 _ c6 _ HM6.out.1 (by rw [← HM6.out.2.len, matBy_length]; omega)).mono ?_); rintro e w7 ⟨rfl, hb7⟩; rw [decide_eq_true (cau_alike n m)]; have HB7 := Lib.hid (HB6.out.trans (hb7.mono HB6.out.size)); clear hb7)
              | (go_at_call 22; refine (lone_says _).mono ?_; rintro e w9 ⟨rfl, hb9⟩; have HB9 := Lib.hid (HB7.out.trans (hb9.mono HB7.out.size)); clear hb9))
            go_ret
            exact ⟨rfl, HB9.out⟩
          · go_enter Try.func4, Try.ntmps4
            go_wp2_with (first
              | (go_at_call 11; refine (new_says _).mono ?_; rintro e w1 ⟨P, rfl, hb1⟩; have HB1 := Lib.hid hb1; clear hb1)
              | (go_at_call 23; refine (one_yes n ha _).mono ?_; rintro e w2 ⟨A2, n2, c2, rfl, hm2, hb2⟩; have HM2 := Lib.hid hm2; have HB2 := Lib.hid (HB1.out.trans (hb2.mono HB1.out.size)); clear hb2 hm2)
              | (go_at_call 24; refine (cauchy_yes P n m hb _).mono ?_; rintro e w3 ⟨A3, n3, c3, rfl, hm3, hb3⟩; have HM3 := Lib.hid hm3; have HB23 := Lib.hid hb3; have HB3 := Lib.hid (HB2.out.trans (hb3.mono HB2.out.size)); clear hb3 hm3)
              | (go_at_call 25; refine (roneM_says _ n (by omega)).mono ?_; rintro e w4 ⟨v4, rfl, hm4, hb4⟩; obtain ⟨A4, c4, rfl, hx4⟩ := hm4.mtx; have HM4 := Lib.hid (And.intro hx4 (HM2.out.below (HB23.out.trans (hb4.mono HB23.out.size)))); have HB34 := Lib.hid hb4; have HB4 := Lib.hid (HB3.out.trans (hb4.mono HB3.out.size)); clear hb4 hm4 hx4)
              | (go_at_call 14; with_reducible refine ((rsameM_says _ A2 n2 c2 _ HM4.out.2 A4 _ c4 _ HM4.out.1 (by rw [← HM4.out.2.len, matBy_length]; omega)).mono ?_); rintro e w5 ⟨rfl, hb5⟩; rw [decide_eq_true (one_alike n)]; have HB45 := Lib.hid (HB34.out.trans (hb5.mono HB34.out.size)); have HB5 := Lib.hid (HB4.out.trans (hb5.mono HB4.out.size)); clear hb5)
              | (go_at_call 22; refine (lone_says _).mono ?_; rintro e w9 ⟨rfl, hb9⟩; have HB9 := Lib.hid (HB5.out.trans (hb9.mono HB5.out.size)); clear hb9))
            go_ret
            exact ⟨rfl, HB9.out⟩
        · go_enter Try.func4, Try.ntmps4
          go_wp2_with (first
            | (go_at_call 11; refine (new_says _).mono ?_; rintro e w1 ⟨P, rfl, hb1⟩; have HB1 := Lib.hid hb1; clear hb1)
            | (go_at_call 23; refine (one_yes n ha _).mono ?_; rintro e w2 ⟨A2, n2, c2, rfl, hm2, hb2⟩; have HM2 := Lib.hid hm2; have HB2 := Lib.hid (HB1.out.trans (hb2.mono HB1.out.size)); clear hb2 hm2)
            | (go_at_call 24; refine (cauchy_yes P n m hb _).mono ?_; rintro e w3 ⟨A3, n3, c3, rfl, hm3, hb3⟩; have HM3 := Lib.hid hm3; have HB23 := Lib.hid hb3; have HB3 := Lib.hid (HB2.out.trans (hb3.mono HB2.out.size)); clear hb3 hm3)
            | (go_at_call 25; refine (roneM_says _ n (by omega)).mono ?_; rintro e w4 ⟨v4, rfl, hm4, hb4⟩; obtain ⟨A4, c4, rfl, hx4⟩ := hm4.mtx; have HM4 := Lib.hid (And.intro hx4 (HM2.out.below (HB23.out.trans (hb4.mono HB23.out.size)))); have HB34 := Lib.hid hb4; have HB4 := Lib.hid (HB3.out.trans (hb4.mono HB3.out.size)); clear hb4 hm4 hx4)
            | (go_at_call 14; with_reducible refine ((rsameM_says _ A2 n2 c2 _ HM4.out.2 A4 _ c4 _ HM4.out.1 (by rw [← HM4.out.2.len, matBy_length]; omega)).mono ?_); rintro e w5 ⟨rfl, hb5⟩; rw [decide_eq_true (one_alike n)]; have HB45 := Lib.hid (HB34.out.trans (hb5.mono HB34.out.size)); have HB5 := Lib.hid (HB4.out.trans (hb5.mono HB4.out.size)); clear hb5)
            | (go_at_call 22; refine (lone_says _).mono ?_; rintro e w9 ⟨rfl, hb9⟩; have HB9 := Lib.hid (HB5.out.trans (hb9.mono HB5.out.size)); clear hb9))
          go_ret
          exact ⟨rfl, HB9.out⟩
      · have h12 : ¬ (n : Int) ≤ 12 := by omega
        go_enter Try.func4, Try.ntmps4
        go_wp2_with (first
          | (go_at_call 11; refine (new_says _).mono ?_; rintro e w1 ⟨P, rfl, hb1⟩; have HB1 := Lib.hid hb1; clear hb1)
          | (go_at_call 23; refine (one_yes n ha _).mono ?_; rintro e w2 ⟨A2, n2, c2, rfl, hm2, hb2⟩; have HM2 := Lib.hid hm2; have HB2 := Lib.hid (HB1.out.trans (hb2.mono HB1.out.size)); clear hb2 hm2)
          | (go_at_call 24; refine (cauchy_yes P n m hb _).mono ?_; rintro e w3 ⟨A3, n3, c3, rfl, hm3, hb3⟩; have HM3 := Lib.hid hm3; have HB23 := Lib.hid hb3; have HB3 := Lib.hid (HB2.out.trans (hb3.mono HB2.out.size)); clear hb3 hm3)
          | (go_at_call 22; refine (lone_says _).mono ?_; rintro e w9 ⟨rfl, hb9⟩; have HB9 := Lib.hid (HB3.out.trans (hb9.mono HB3.out.size)); clear hb9))
        go_ret
        exact ⟨rfl, HB9.out⟩
    · -- no Cauchy matrix
      have hcond : ¬ (1 ≤ cols) ∨ (1 ≤ cols ∧ ¬ (cols ≤ 255)) ∨ (1 ≤ cols ∧ cols ≤ 255 ∧ ¬ ((n : Int) + cols ≤ 256)) := by
        unfold cauOk at hb
        omega
      have g6 : (1 ≤ cols ∧ cols ≤ 255) → IntKind.i64.wrap ((n : Int) + cols) = (n : Int) + cols := fun h => IntWalk.i64_in _ (by omega)
      rcases hcond with c1 | ⟨c1, c2⟩ | ⟨c1, c2, c3⟩
      · clear g6
        by_cases h40 : (n : Int) ≤ 40
        · go_enter Try.func4, Try.ntmps4
          go_wp2_with (first
            | (go_at_call 11; refine (new_says _).mono ?_; rintro e w1 ⟨P, rfl, hb1⟩; have HB1 := Lib.hid hb1; clear hb1)
            | (go_at_call 23; refine (one_yes n ha _).mono ?_; rintro e w2 ⟨A2, n2, c2, rfl, hm2, hb2⟩; have HM2 := Lib.hid hm2; have HB2 := Lib.hid (HB1.out.trans (hb2.mono HB1.out.size)); clear hb2 hm2)
            | (go_at_call 24; refine (cauchy_no P _ cols hrng hb _).mono ?_; rintro e w3 ⟨A3, n3, c3, rfl, hm3, hb3⟩; obtain rfl : n3 = 0 := hm3.len.symm; have HB23 := Lib.hid hb3; have HB3 := Lib.hid (HB2.out.trans (hb3.mono HB2.out.size)); clear hb3 hm3)
            | (go_at_call 25; refine (roneM_says _ n (by omega)).mono ?_; rintro e w4 ⟨v4, rfl, hm4, hb4⟩; obtain ⟨A4, c4, rfl, hx4⟩ := hm4.mtx; have HM4 := Lib.hid (And.intro hx4 (HM2.out.below (HB23.out.trans (hb4.mono HB23.out.size)))); have HB34 := Lib.hid hb4; have HB4 := Lib.hid (HB3.out.trans (hb4.mono HB3.out.size)); clear hb4 hm4 hx4)
            | (go_at_call 14; with_reducible refine ((rsameM_says _ A2 n2 c2 _ HM4.out.2 A4 _ c4 _ HM4.out.1 (by rw [← HM4.out.2.len, matBy_length]; omega)).mono ?_); rintro e w5 ⟨rfl, hb5⟩; rw [decide_eq_true (one_alike n)]; have HB45 := Lib.hid (HB34.out.trans (hb5.mono HB34.out.size)); have HB5 := Lib.hid (HB4.out.trans (hb5.mono HB4.out.size)); clear hb5)
            | (go_at_call 22; refine (lone_says _).mono ?_; rintro e w9 ⟨rfl, hb9⟩; have HB9 := Lib.hid (HB5.out.trans (hb9.mono HB5.out.size)); clear hb9))
          go_ret
          exact ⟨rfl, HB9.out⟩
        · go_enter Try.func4, Try.ntmps4
          go_wp2_with (first
            | (go_at_call 11; refine (new_says _).mono ?_; rintro e w1 ⟨P, rfl, hb1⟩; have HB1 := Lib.hid hb1; clear hb1)
            | (go_at_call 23; refine (one_yes n ha _).mono ?_; rintro e w2 ⟨A2, n2, c2, rfl, hm2, hb2⟩; have HM2 := Lib.hid hm2; have HB2 := Lib.hid (HB1.out.trans (hb2.mono HB1.out.size)); clear hb2 hm2)
            | (go_at_call 24; refine (cauchy_no P _ cols hrng hb _).mono ?_; rintro e w3 ⟨A3, n3, c3, rfl, hm3, hb3⟩; obtain rfl : n3 = 0 := hm3.len.symm; have HB23 := Lib.hid hb3; have HB3 := Lib.hid (HB2.out.trans (hb3.mono HB2.out.size)); clear hb3 hm3)
            | (go_at_call 22; refine (lone_says _).mono ?_; rintro e w9 ⟨rfl, hb9⟩; have HB9 := Lib.hid (HB3.out.trans (hb9.mono HB3.out.size)); clear hb9))
          go_ret
          exact ⟨rfl, HB9.out⟩
      · clear g6
        by_cases h40 : (n : Int) ≤ 40
        · go_enter Try.func4, Try.ntmps4
          go_wp2_with (first
            | (go_at_call 11; refine (new_says _).mono ?_; rintro e w1 ⟨P, rfl, hb1⟩; have HB1 := Lib.hid hb1; clear hb1)
            | (go_at_call 23; refine (one_yes n ha _).mono ?_; rintro e w2 ⟨A2, n2, c2, rfl, hm2, hb2⟩; have HM2 := Lib.hid hm2; have HB2 := Lib.hid (HB1.out.trans (hb2.mono HB1.out.size)); clear hb2 hm2)
            | (go_at_call 24; refine (cauchy_no P _ cols hrng hb _).mono ?_; rintro e w3 ⟨A3, n3, c3, rfl, hm3, hb3⟩; obtain rfl : n3 = 0 := hm3.len.symm; have HB23 := Lib.hid hb3; have HB3 := Lib.hid (HB2.out.trans (hb3.mono HB2.out.size)); clear hb3 hm3)
            | (go_at_call 25; refine (roneM_says _ n (by omega)).mono ?_; rintro e w4 ⟨v4, rfl, hm4, hb4⟩; obtain ⟨A4, c4, rfl, hx4⟩ := hm4.mtx; have HM4 := Lib.hid (And.intro hx4 (HM2.out.below (HB23.out.trans (hb4.mono HB23.out.size)))); have HB34 := Lib.hid hb4; have HB4 := Lib.hid (HB3.out.trans (hb4.mono HB3.out.size)); clear hb4 hm4 hx4)
            | (go_at_call 14; with_reducible refine ((rsameM_says _ A2 n2 c2 _ HM4.out.2 A4 _ c4 _ HM4.out.1 (by rw [← HM4.out.2.len, matBy_length]; omega)).mono ?_); rintro e w5 ⟨rfl, hb5⟩; rw [decide_eq_true (one_alike n)]; have HB45 := Lib.hid (HB34.out.trans (hb5.mono HB34.out.size)); have HB5 := Lib.hid (HB4.out.trans (hb5.mono HB4.out.size)); clear hb5)
            | (go_at_call 22; refine (lone_says _).mono ?_; rintro e w9 ⟨rfl, hb9⟩; have HB9 := Lib.hid (HB5.out.trans (hb9.mono HB5.out.size)); clear hb9))
          go_ret
          exact ⟨rfl, HB9.out⟩
        · go_enter Try.func4, Try.ntmps4
          go_wp2_with (first
            | (go_at_call 11; refine (new_says _).mono ?_; rintro e w1 ⟨P, rfl, hb1⟩; have HB1 := Lib.hid hb1; clear hb1)
            | (go_at_call 23; refine (one_yes n ha _).mono ?_; rintro e w2 ⟨A2, n2, c2, rfl, hm2, hb2⟩; have HM2 := Lib.hid hm2; have HB2 := Lib.hid (HB1.out.trans (hb2.mono HB1.out.size)); clear hb2 hm2)
            | (go_at_call 24; refine (cauchy_no P _ cols hrng hb _).mono ?_; rintro e w3 ⟨A3, n3, c3, rfl, hm3, hb3⟩; obtain rfl : n3 = 0 := hm3.len.symm; have HB23 := Lib.hid hb3; have HB3 := Lib.hid (HB2.out.trans (hb3.mono HB2.out.size)); clear hb3 hm3)
            | (go_at_call 22; refine (lone_says _).mono ?_; rintro e w9 ⟨rfl, hb9⟩; have HB9 := Lib.hid (HB3.out.trans (hb9.mono HB3.out.size)); clear hb9))
          go_ret
          exact ⟨rfl, HB9.out⟩
      · have g7 := g6 ⟨c1, c2⟩
        clear g6
        by_cases h40 : (n : Int) ≤ 40
        · go_enter Try.func4, Try.ntmps4
          go_wp2_with (first
            | (go_at_call 11; refine (new_says _).mono ?_; rintro e w1 ⟨P, rfl, hb1⟩; have HB1 := Lib.hid hb1; clear hb1)
            | (go_at_call 23; refine (one_yes n ha _).mono ?_; rintro e w2 ⟨A2, n2, c2, rfl, hm2, hb2⟩; have HM2 := Lib.hid hm2; have HB2 := Lib.hid (HB1.out.trans (hb2.mono HB1.out.size)); clear hb2 hm2)
            | (go_at_call 24; refine (cauchy_no P _ cols hrng hb _).mono ?_; rintro e w3 ⟨A3, n3, c3, rfl, hm3, hb3⟩; obtain rfl : n3 = 0 := hm3.len.symm; have HB23 := Lib.hid hb3; have HB3 := Lib.hid (HB2.out.trans (hb3.mono HB2.out.size)); clear hb3 hm3)
            | (go_at_call 25; refine (roneM_says _ n (by omega)).mono ?_; rintro e w4 ⟨v4, rfl, hm4, hb4⟩; obtain ⟨A4, c4, rfl, hx4⟩ := hm4.mtx; have HM4 := Lib.hid (And.intro hx4 (HM2.out.below (HB23.out.trans (hb4.mono HB23.out.size)))); have HB34 := Lib.hid hb4; have HB4 := Lib.hid (HB3.out.trans (hb4.mono HB3.out.size)); clear hb4 hm4 hx4)
            | (go_at_call 14; with_reducible refine ((rsameM_says _ A2 n2 c2 _ HM4.out.2 A4 _ c4 _ HM4.out.1 (by rw [← HM4.out.2.len, matBy_length]; omega)).mono ?_); rintro e w5 ⟨rfl, hb5⟩; rw [decide_eq_true (one_alike n)]; have HB45 := Lib.hid (HB34.out.trans (hb5.mono HB34.out.size)); have HB5 := Lib.hid (HB4.out.trans (hb5.mono HB4.out.size)); clear hb5)
            | (go_at_call 22; refine (lone_says _).mono ?_; rintro e w9 ⟨rfl, hb9⟩; have HB9 := Lib.hid (HB5.out.trans (hb9.mono HB5.out.size)); clear hb9))
          go_ret
          exact ⟨rfl, HB9.out⟩
        · go_enter Try.func4, Try.ntmps4
          go_wp2_with (first
            | (go_at_call 11; refine (new_says _).mono ?_; rintro e w1 ⟨P, rfl, hb1⟩; have HB1 := Lib.hid hb1; clear hb1)
            | (go_at_call 23; refine (one_yes n ha _).mono ?_; rintro e w2 ⟨A2, n2, c2, rfl, hm2, hb2⟩; have HM2 := Lib.hid hm2; have HB2 := Lib.hid (HB1.out.trans (hb2.mono HB1.out.size)); clear hb2 hm2)
            | (go_at_call 24; refine (cauchy_no P _ cols hrng hb _).mono ?_; rintro e w3 ⟨A3, n3, c3, rfl, hm3, hb3⟩; obtain rfl : n3 = 0 := hm3.len.symm; have HB23 := Lib.hid hb3; have HB3 := Lib.hid (HB2.out.trans (hb3.mono HB2.out.size)); clear hb3 hm3)
            | (go_at_call 22; refine (lone_says _).mono ?_; rintro e w9 ⟨rfl, hb9⟩; have HB9 := Lib.hid (HB3.out.trans (hb9.mono HB3.out.size)); clear hb9))
          go_ret
          exact ⟨rfl, HB9.out⟩
  · -- no such size
    have hb : ¬ cauOk rows cols := fun h => ha h.1
    by_cases g1 : 1 ≤ rows
    · have g2 : ¬ rows ≤ 255 := fun h => ha ⟨g1, h⟩
      go_enter Try.func4, Try.ntmps4
      go_wp2_with (first
        | (go_at_call 11; refine (new_says _).mono ?_; rintro e w1 ⟨P, rfl, hb1⟩; have HB1 := Lib.hid hb1; clear hb1)
        | (go_at_call 23; refine (one_no rows ha _).mono ?_; rintro e w2 ⟨A2, n2, c2, rfl, hm2, hb2⟩; obtain rfl : n2 = 0 := hm2.len.symm; have HB2 := Lib.hid (HB1.out.trans (hb2.mono HB1.out.size)); clear hb2 hm2)
        | (go_at_call 24; refine (cauchy_no P _ cols hrng hb _).mono ?_; rintro e w3 ⟨A3, n3, c3, rfl, hm3, hb3⟩; obtain rfl : n3 = 0 := hm3.len.symm; have HB23 := Lib.hid hb3; have HB3 := Lib.hid (HB2.out.trans (hb3.mono HB2.out.size)); clear hb3 hm3)
        | (go_at_call 22; refine (lone_says _).mono ?_; rintro e w9 ⟨rfl, hb9⟩; have HB9 := Lib.hid (HB3.out.trans (hb9.mono HB3.out.size)); clear hb9))
      go_ret
      exact ⟨rfl, HB9.out⟩
    · go_enter Try.func4, Try.ntmps4
      go_wp2_with (first
        | (go_at_call 11; refine (new_says _).mono ?_; rintro e w1 ⟨P, rfl, hb1⟩; have HB1 := Lib.hid hb1; clear hb1)
        | (go_at_call 23; refine (one_no rows ha _).mono ?_; rintro e w2 ⟨A2, n2, c2, rfl, hm2, hb2⟩; obtain rfl : n2 = 0 := hm2.len.symm; have HB2 := Lib.hid (HB1.out.trans (hb2.mono HB1.out.size)); clear hb2 hm2)
        | (go_at_call 24; refine (cauchy_no P _ cols hrng hb _).mono ?_; rintro e w3 ⟨A3, n3, c3, rfl, hm3, hb3⟩; obtain rfl : n3 = 0 := hm3.len.symm; have HB23 := Lib.hid hb3; have HB3 := Lib.hid (HB2.out.trans (hb3.mono HB2.out.size)); clear hb3 hm3)
        | (go_at_call 22; refine (lone_says _).mono ?_; rintro e w9 ⟨rfl, hb9⟩; have HB9 := Lib.hid (HB3.out.trans (hb9.mono HB3.out.size)); clear hb9))
      go_ret
      exact ⟨rfl, HB9.out⟩
end Go.Proofs.Ytgakeecibofiiaa
