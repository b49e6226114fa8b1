/-
  The field's functions of one or two numbers, as they landed.
-/
import Derived.Test.YtgakeecibofiiaaRefInv
import Derived.Test.YtgakeecibofiiaaGfPure
import Derived.Below
namespace Go.Proofs.Ytgakeecibofiiaa
open Go.RowKit

theorem dbl_table : ∀ a : Nat, a < 256 → bits .xor .u8 ((a : Int) * 2 % 256) ((a : Int) / 128 * 29 % 256) = (Gf.gm a 2 : Int) := by decide +kernel

set_option maxRecDepth 100000 in
set_option maxHeartbeats 1000000 in
theorem double_says (a : UInt8) (w : World) : Calls Try.prog 64 #[.int .u8 (a.toNat : Int)] w fun e w' => e = .returned (.int .u8 ((Gf.mul a 2).toNat : Int)) ∧ w' = w := by
  have HT := Lib.hid (dbl_table a.toNat a.toNat_lt)
  rw [Gf.mul_toNat]
  go_enter Try.func64, Try.ntmps64
  go_wp2
  go_ret
  refine ⟨?_, rfl⟩
  show Ending.returned (Value.int .u8 (bits .xor .u8 ((a.toNat : Int) * 2 % 256) ((a.toNat : Int) / 128 * 29 % 256))) = _
  rw [HT.out]
  rfl

/-- The first number behind so many doublings, and the product's parts as far as so many bits. -/
def aTo (a : UInt8) : Nat → UInt8
  | 0 => a
  | k + 1 => Gf.mul (aTo a k) 2
def oTo (a b : UInt8) : Nat → UInt8
  | 0 => 0
  | k + 1 => oTo a b k ^^^ (if b.toNat.testBit k then aTo a k else 0)
theorem aTo_pow (a : UInt8) : ∀ k, aTo a k = Gf.mul a (Gf.pw 2 k)
  | 0 => (Gf.mul_one a).symm
  | k + 1 => by rw [aTo, aTo_pow a k, Gf.mul_assoc]; rfl
def bTo (b : UInt8) : Nat → UInt8
  | 0 => 0
  | k + 1 => bTo b k ^^^ (if b.toNat.testBit k then Gf.pw 2 k else 0)
theorem oTo_mul (a b : UInt8) : ∀ k, oTo a b k = Gf.mul a (bTo b k)
  | 0 => (Gf.mul_zero a).symm
  | k + 1 => by
    rw [oTo, bTo, oTo_mul a b k, Gf.mul_add, aTo_pow]
    split
    · rfl
    · rw [Gf.mul_zero]
theorem bTo_table : ∀ n : Nat, n < 256 → bTo (UInt8.ofNat n) 8 = UInt8.ofNat n := by decide +kernel
theorem bTo_all (b : UInt8) : bTo b 8 = b := by
  have h := bTo_table b.toNat b.toNat_lt
  rwa [UInt8.ofNat_toNat] at h
theorem oTo_all (a b : UInt8) : oTo a b 8 = Gf.mul a b := by rw [oTo_mul, bTo_all]
theorem and_table : ∀ y : Nat, y < 256 → ∀ k : Nat, k < 8 → bits .and .u8 ((y : Int) / 2 ^ k) 1 = if y.testBit k then 1 else 0 := by decide +kernel
theorem mul_step (o x y : UInt8) (k : Nat) (hk : k < 8) : bits .xor .u8 (o.toNat : Int) ((x.toNat : Int) * bits .and .u8 ((y.toNat : Int) / 2 ^ k) 1 % 256) = ((o ^^^ (if y.toNat.testBit k then x else 0)).toNat : Int) := by
  rw [and_table y.toNat y.toNat_lt k hk]
  have hx := x.toNat_lt
  split
  · rw [show (x.toNat : Int) * 1 % 256 = (x.toNat : Int) by omega]
    exact bits_x8 o x
  · rw [show (x.toNat : Int) * 0 % 256 = ((0 : UInt8).toNat : Int) by simp]
    exact bits_x8 o 0

set_option maxRecDepth 100000 in
set_option maxHeartbeats 1000000 in
theorem mul_says (P : Option Addr) (a b : UInt8) (w : World) : Calls Try.prog 55 #[.pointer P, .int .u8 (a.toNat : Int), .int .u8 (b.toNat : Int)] w fun e w' => e = .returned (.int .u8 ((Gf.mul a b).toNat : Int)) ∧ w' = w := by
  rw [← oTo_all]
  go_enter Try.func55, Try.ntmps55
  go_wp2_with fail
  go_loopw [1, 7, 9] (fun x o i wr => ∃ (k : Nat) (x' o' : UInt8), k ≤ 8 ∧ i = .int .i64 (k : Int) ∧ x = .int .u8 (x'.toNat : Int) ∧ o = .int .u8 (o'.toNat : Int) ∧ Hid (wr = w ∧ x' = aTo a k ∧ o' = oTo a b k)) (fun _ _ i _ => 8 - (intOf i).toNat)
  case atStart => exact ⟨0, a, 0, by omega, rfl, rfl, rfl, Lib.hid ⟨rfl, rfl, rfl⟩⟩
  case round =>
    obtain ⟨k, x, o, hk, rfl, rfl, rfl, H⟩ := hrel
    have hw' : w = wr := H.out.1.symm
    subst hw'
    by_cases hlt : k < 8
    · have l1 : (k : Int) < 8 := by omega
      have HS := Lib.hid (mul_step o x b k hlt)
      go_wp2_with (go_at_call 64; refine (double_says x _).mono ?_; rintro e w1 ⟨rfl, rfl⟩)
      go_roundw
      case rel =>
        refine ⟨k + 1, Gf.mul x 2, o ^^^ (if b.toNat.testBit k then x else 0), by omega, by go_num, rfl, ?_, Lib.hid ⟨trivial, ?_, ?_⟩⟩
        · rw [← HS.out]
        · rw [H.out.2.1]; rfl
        · rw [H.out.2.1, H.out.2.2]; rfl
      case measure => simp [intOf]; omega
    · obtain rfl : k = 8 := by omega
      have l1 : ¬ ((8 : Nat) : Int) < 8 := by omega
      have HO := Lib.hid H.out.2.2
      clear H
      go_wp2
      go_ret
      refine ⟨?_, rfl⟩
      rw [← HO.out]
      rfl

set_option maxRecDepth 100000 in
theorem add_says (P : Option Addr) (a b : UInt8) (w : World) : Calls Try.prog 47 #[.pointer P, .int .u8 (a.toNat : Int), .int .u8 (b.toNat : Int)] w fun e w' => e = .returned (.int .u8 ((a ^^^ b).toNat : Int)) ∧ w' = w := by
  have h := bits_x8 a b
  go_enter Try.func47, Try.ntmps47
  go_wp2
  go_ret
  exact ⟨rfl, rfl⟩

/-- The count from 0 to 254 that is as good. -/
def roundN (n : Int) : Nat := (n % 255).toNat
theorem roundN_lt (n : Int) : roundN n < 255 := by unfold roundN; omega

set_option maxRecDepth 100000 in
set_option maxHeartbeats 1000000 in
theorem round_says (n : Int) (w : World) : Calls Try.prog 63 #[.int .i64 n] w fun e w' => e = .returned (.int .i64 (roundN n : Int)) ∧ w' = w := by
  obtain ⟨t, ht⟩ : ∃ t, n.tmod 255 = t := ⟨_, rfl⟩
  have hb : -255 < t ∧ t < 255 := by
    rw [← ht]
    rcases Int.lt_or_le n 0 with h | h
    · rw [tmod_neg h]; omega
    · rw [tmod_pos h]; omega
  have hr : (roundN n : Int) = if t < 0 then t + 255 else t := by
    rw [← ht]
    unfold roundN
    rcases Int.lt_or_le n 0 with h | h
    · rw [tmod_neg h]
      split <;> omega
    · rw [tmod_pos h]
      split <;> omega
  by_cases hn : t < 0
  · rw [if_pos hn] at hr
    have hw1 : IntKind.i64.wrap (t + 255) = t + 255 := IntWalk.i64_in _ (by omega)
    have HR := Lib.hid hr
    clear hr
    go_enter Try.func63, Try.ntmps63
    go_wp2
    go_ret
    refine ⟨?_, rfl⟩
    rw [HR.out]
    first | rfl | simp [hw1]
  · rw [if_neg hn] at hr
    have HR := Lib.hid hr
    clear hr
    go_enter Try.func63, Try.ntmps63
    go_wp2
    go_ret
    refine ⟨?_, rfl⟩
    rw [HR.out]
    rfl

theorem pw_sq (x : UInt8) (n : Nat) : Gf.pw (Gf.mul x x) n = Gf.pw x (2 * n) := by
  have h : Gf.mul x x = Gf.pw x 2 := by
    show _ = Gf.mul (Gf.mul 1 x) x
    rw [Gf.one_mul]
  rw [h, Gf.pw_mul]
theorem powL_round {a : UInt8} (h : a ≠ 0) (n : Int) : powL a n = Gf.pw a (roundN n) := by
  obtain ⟨K, hK⟩ : ∃ K, n.natAbs % 255 = K := ⟨_, rfl⟩
  rcases Int.lt_or_le n 0 with hn | hn
  · have hr : roundN n = (255 - K) % 255 := by unfold roundN; omega
    obtain ⟨m, hm⟩ : ∃ m : Nat, n = -(m : Int) := ⟨n.natAbs, by omega⟩
    rw [hr, hm, powL_neg h, Gf.pw_mod h]
    refine (Gf.inv_uniq ?_).symm
    have hmK : Gf.pw a m = Gf.pw a K := by
      rw [← Gf.pw_mod h m, ← hK, hm]
      simp
    rw [hmK, ← Gf.pw_add, show K + (255 - K) = 255 by omega, Gf.pw_255 h]
  · obtain ⟨m, hm⟩ : ∃ m : Nat, n = (m : Int) := ⟨n.natAbs, by omega⟩
    have hr : roundN n = m % 255 := by unfold roundN; omega
    rw [hr, hm, powL_pw h, Gf.pw_mod h]

set_option maxRecDepth 100000 in
set_option maxHeartbeats 2000000 in
theorem power_says (P : Option Addr) (a : UInt8) (n : Int) (w : World) : Calls Try.prog 54 #[.pointer P, .int .u8 (a.toNat : Int), .int .i64 n] w fun e w' => e = .returned (.int .u8 ((powL a n).toNat : Int)) ∧ w' = w := by
  by_cases hn : n = 0
  · subst hn
    rw [powL_at]
    go_enter Try.func54, Try.ntmps54
    go_wp2
    go_ret
    exact ⟨rfl, rfl⟩
  by_cases ha : a = 0
  · subst ha
    rw [powL_zero n hn]
    go_enter Try.func54, Try.ntmps54
    go_wp2
    go_ret
    exact ⟨rfl, rfl⟩
  rw [powL_round ha]
  have hcn : ¬ (a.toNat : Int) = 0 := by have := Gf.toNat_ne ha; omega
  have hcr := round_says n w
  have hK := roundN_lt n
  generalize roundN n = K at hcr hK ⊢
  clear ha
  go_enter Try.func54, Try.ntmps54
  go_wp2_with (go_at_call 63; refine hcr.mono ?_; rintro e w1 ⟨rfl, hw1⟩; obtain rfl : w = w1 := hw1.symm)
  go_loopw [1, 7, 8] (fun x o i wr => ∃ (l : Nat) (x' o' : UInt8), l < 255 ∧ i = .int .i64 (l : Int) ∧ x = .int .u8 (x'.toNat : Int) ∧ o = .int .u8 (o'.toNat : Int) ∧ Hid (wr = w ∧ Gf.mul o' (Gf.pw x' l) = Gf.pw a K)) (fun _ _ i _ => (intOf i).toNat)
  case atStart => exact ⟨K, a, 1, hK, rfl, rfl, rfl, Lib.hid ⟨rfl, Gf.one_mul _⟩⟩
  case round =>
    obtain ⟨l, x, o, hl, rfl, rfl, rfl, H⟩ := hrel
    have hw' : w = wr := H.out.1.symm
    subst hw'
    have HE := Lib.hid H.out.2
    clear H
    by_cases h0 : 0 < l
    · have l1 : (0 : Int) < (l : Int) := by omega
      have hq : (l : Int).tdiv 2 = ((l / 2 : Nat) : Int) := by rw [Int.tdiv_eq_ediv_of_nonneg (by omega)]; omega
      have hm : (l : Int).tmod 2 = ((l % 2 : Nat) : Int) := by rw [Int.tmod_eq_emod_of_nonneg (by omega)]; omega
      have hwq : IntKind.i64.wrap ((l / 2 : Nat) : Int) = ((l / 2 : Nat) : Int) := IntWalk.i64_in _ (by omega)
      rcases Nat.mod_two_eq_zero_or_one l with h2 | h2
      · rw [h2] at hm
        have HX := Lib.hid (show Gf.mul o (Gf.pw (Gf.mul x x) (l / 2)) = Gf.pw a K from by rw [pw_sq, show 2 * (l / 2) = l by omega]; exact HE.out)
        have HL := Lib.hid (show l / 2 < 255 ∧ l / 2 < l from by omega)
        generalize l / 2 = q at hq hwq HX HL
        go_wp2_with (go_at_call 55; refine (mul_says P x x _).mono ?_; rintro e w1 ⟨rfl, rfl⟩)
        go_roundw
        case rel => exact ⟨q, Gf.mul x x, o, HL.out.1, rfl, rfl, rfl, Lib.hid ⟨trivial, HX.out⟩⟩
        case measure => have := HL.out.2; simp [intOf]; omega
      · rw [h2] at hm
        have HX := Lib.hid (show Gf.mul (Gf.mul o x) (Gf.pw (Gf.mul x x) (l / 2)) = Gf.pw a K from by
          rw [pw_sq, Gf.mul_assoc, ← Gf.pw_succ_left, show 2 * (l / 2) + 1 = l by omega]; exact HE.out)
        have HL := Lib.hid (show l / 2 < 255 ∧ l / 2 < l from by omega)
        generalize l / 2 = q at hq hwq HX HL
        go_wp2_with (first
          | (go_at_call 55; with_reducible refine (mul_says P o x _).mono ?_; rintro e w1 ⟨rfl, hw1⟩; obtain rfl : w = w1 := hw1.symm)
          | (go_at_call 55; with_reducible refine (mul_says P x x _).mono ?_; rintro e w1 ⟨rfl, hw1⟩; obtain rfl : w = w1 := hw1.symm))
        go_roundw
        case rel => exact ⟨q, Gf.mul x x, Gf.mul o x, HL.out.1, rfl, rfl, rfl, Lib.hid ⟨trivial, HX.out⟩⟩
        case measure => have := HL.out.2; simp [intOf]; omega
    · obtain rfl : l = 0 := by omega
      have l1 : ¬ (0 : Int) < ((0 : Nat) : Int) := by omega
      have HO := Lib.hid (show o = Gf.pw a K from by rw [← HE.out]; exact (Gf.mul_one o).symm)
      go_wp2
      go_ret
      refine ⟨?_, rfl⟩
      rw [← HO.out]
      rfl

theorem inv_pow (a : UInt8) : powL a 254 = Gf.inv a := by
  by_cases h : a = 0
  · subst h
    rw [powL_zero _ (by omega), Gf.inv_zero]
  · rw [powL_round h, show roundN 254 = 254 from rfl]
    refine Gf.inv_uniq ?_
    rw [← Gf.pw_succ_left]
    exact Gf.pw_255 h
set_option maxRecDepth 100000 in
theorem inv_says (P : Option Addr) (a : UInt8) (w : World) : Calls Try.prog 46 #[.pointer P, .int .u8 (a.toNat : Int)] w fun e w' => e = .returned (.int .u8 ((Gf.inv a).toNat : Int)) ∧ w' = w := by
  have h := power_says P a 254 w
  rw [inv_pow] at h
  go_enter Try.func46, Try.ntmps46
  go_wp2_with (go_at_call 54; refine h.mono ?_; rintro e w1 ⟨rfl, rfl⟩)
  go_ret
  exact ⟨rfl, rfl⟩

set_option maxRecDepth 100000 in
theorem new_says (w : World) : Calls Try.prog 11 #[] w fun e w' => ∃ P, e = .returned (.pointer P) ∧ Below w.heap.size w w' := by
  have HB := Lib.hid (Below.refl w.heap.size w)
  go_enter Try.func11, Try.ntmps11
  go_wp2
  go_ret
  exact ⟨_, rfl, HB.out.alloc HB.out.size _⟩
end Go.Proofs.Ytgakeecibofiiaa
