/-
  The field's functions of one or two numbers, as they landed.
  Eval of package gf, given what Add and Mul tell.
  Scale of package gf, given what Mul tells.
  Sum of package gf, given what Add tells.
-/
import Derived.Test.YtpbkabgjpieggaaM4
import Derived.Test.YtpbkabgjpieggaaM2
import Derived.Below
import Derived.Test.YtpbkabgjpieggaaM1
import Derived.Deep.DeepCutAuto
import Derived.Deep.CutBlock
import Derived.Laws.CopyOwn

namespace Go.Proofs.Ytpbkabgjpieggaa
open Go.RowKit

theorem dbl_table : ∀ a : Nat, a < 256 → bits .xor .u8 ((a : Int) * 2 % 256) ((a : Int) / 128 * 29 % 256) = (Gf.gm a 2 : Int) := by decide +kernel

set_option maxRecDepth 100000 in
set_option maxHeartbeats 1000000 in
theorem double_says (a : UInt8) (w : World) : Calls Try.prog 69 #[.int .u8 (a.toNat : Int)] w fun e w' => e = .returned (.int .u8 ((Gf.mul a 2).toNat : Int)) ∧ w' = w := by
  have HT := Lib.hid (dbl_table a.toNat a.toNat_lt)
  rw [Gf.mul_toNat]
  go_enter Try.func69, Try.ntmps69
  go_wp2
  go_ret
  refine ⟨?_, rfl⟩
  show Ending.returned (Value.int .u8 (bits .xor .u8 ((a.toNat : Int) * 2 % 256) ((a.toNat : Int) / 128 * 29 % 256))) = _
  rw [HT.out]
  rfl

/-- The first number behind so many doublings, and the product's parts as far as so many bits. -/
def aTo (a : UInt8) : Nat → UInt8
  | 0 => a
  | k + 1 => Gf.mul (aTo a k) 2
def oTo (a b : UInt8) : Nat → UInt8
  | 0 => 0
  | k + 1 => oTo a b k ^^^ (if b.toNat.testBit k then aTo a k else 0)
theorem aTo_pow (a : UInt8) : ∀ k, aTo a k = Gf.mul a (Gf.pw 2 k)
  | 0 => (Gf.mul_one a).symm
  | k + 1 => by rw [aTo, aTo_pow a k, Gf.mul_assoc]; rfl
def bTo (b : UInt8) : Nat → UInt8
  | 0 => 0
  | k + 1 => bTo b k ^^^ (if b.toNat.testBit k then Gf.pw 2 k else 0)
theorem oTo_mul (a b : UInt8) : ∀ k, oTo a b k = Gf.mul a (bTo b k)
  | 0 => (Gf.mul_zero a).symm
  | k + 1 => by
    rw [oTo, bTo, oTo_mul a b k, Gf.mul_add, aTo_pow]
    split
    · rfl
    · rw [Gf.mul_zero]
theorem bTo_table : ∀ n : Nat, n < 256 → bTo (UInt8.ofNat n) 8 = UInt8.ofNat n := by decide +kernel
theorem bTo_all (b : UInt8) : bTo b 8 = b := by
  have h := bTo_table b.toNat b.toNat_lt
  rwa [UInt8.ofNat_toNat] at h
theorem oTo_all (a b : UInt8) : oTo a b 8 = Gf.mul a b := by rw [oTo_mul, bTo_all]
theorem and_table : ∀ y : Nat, y < 256 → ∀ k : Nat, k < 8 → bits .and .u8 ((y : Int) / 2 ^ k) 1 = if y.testBit k then 1 else 0 := by decide +kernel
theorem mul_step (o x y : UInt8) (k : Nat) (hk : k < 8) : bits .xor .u8 (o.toNat : Int) ((x.toNat : Int) * bits .and .u8 ((y.toNat : Int) / 2 ^ k) 1 % 256) = ((o ^^^ (if y.toNat.testBit k then x else 0)).toNat : Int) := by
  rw [and_table y.toNat y.toNat_lt k hk]
  have hx := x.toNat_lt
  split
  · rw [show (x.toNat : Int) * 1 % 256 = (x.toNat : Int) by omega]
    exact bits_x8 o x
  · rw [show (x.toNat : Int) * 0 % 256 = ((0 : UInt8).toNat : Int) by simp]
    exact bits_x8 o 0

set_option maxRecDepth 100000 in
set_option maxHeartbeats 1000000 in
theorem mul_says (P : Option Addr) (a b : UInt8) (w : World) : Calls Try.prog 62 #[.pointer P, .int .u8 (a.toNat : Int), .int .u8 (b.toNat : Int)] w fun e w' => e = .returned (.int .u8 ((Gf.mul a b).toNat : Int)) ∧ w' = w := by
  rw [← oTo_all]
  go_enter Try.func62, Try.ntmps62
  go_wp2_with fail
  go_loopw [1, 7, 9] (fun x o i wr => ∃ (k : Nat) (x' o' : UInt8), k ≤ 8 ∧ i = .int .i64 (k : Int) ∧ x = .int .u8 (x'.toNat : Int) ∧ o = .int .u8 (o'.toNat : Int) ∧ Hid (wr = w ∧ x' = aTo a k ∧ o' = oTo a b k)) (fun _ _ i _ => 8 - (intOf i).toNat)
  case atStart => exact ⟨0, a, 0, by omega, rfl, rfl, rfl, Lib.hid ⟨rfl, rfl, rfl⟩⟩
  case round =>
    obtain ⟨k, x, o, hk, rfl, rfl, rfl, H⟩ := hrel
    have hw' : w = wr := H.out.1.symm
    subst hw'
    by_cases hlt : k < 8
    · have l1 : (k : Int) < 8 := by omega
      have HS := Lib.hid (mul_step o x b k hlt)
      go_wp2_with (go_at_call 69; refine (double_says x _).mono ?_; rintro e w1 ⟨rfl, rfl⟩)
      go_roundw
      case rel =>
        refine ⟨k + 1, Gf.mul x 2, o ^^^ (if b.toNat.testBit k then x else 0), by omega, by go_num, rfl, ?_, Lib.hid ⟨trivial, ?_, ?_⟩⟩
        · rw [← HS.out]
        · rw [H.out.2.1]; rfl
        · rw [H.out.2.1, H.out.2.2]; rfl
      case measure => simp [intOf]; omega
    · obtain rfl : k = 8 := by omega
      have l1 : ¬ ((8 : Nat) : Int) < 8 := by omega
      have HO := Lib.hid H.out.2.2
      clear H
      go_wp2
      go_ret
      refine ⟨?_, rfl⟩
      rw [← HO.out]
      rfl

set_option maxRecDepth 100000 in
theorem add_says (P : Option Addr) (a b : UInt8) (w : World) : Calls Try.prog 53 #[.pointer P, .int .u8 (a.toNat : Int), .int .u8 (b.toNat : Int)] w fun e w' => e = .returned (.int .u8 ((a ^^^ b).toNat : Int)) ∧ w' = w := by
  have h := bits_x8 a b
  go_enter Try.func53, Try.ntmps53
  go_wp2
  go_ret
  exact ⟨rfl, rfl⟩

/-- The count from 0 to 254 that is as good. -/
def roundN (n : Int) : Nat := (n % 255).toNat
theorem roundN_lt (n : Int) : roundN n < 255 := by unfold roundN; omega

set_option maxRecDepth 100000 in
set_option maxHeartbeats 1000000 in
theorem round_says (n : Int) (w : World) : Calls Try.prog 71 #[.int .i64 n] w fun e w' => e = .returned (.int .i64 (roundN n : Int)) ∧ w' = w := by
  obtain ⟨t, ht⟩ : ∃ t, n.tmod 255 = t := ⟨_, rfl⟩
  have hb : -255 < t ∧ t < 255 := by
    rw [← ht]
    rcases Int.lt_or_le n 0 with h | h
    · rw [tmod_neg h]; omega
    · rw [tmod_pos h]; omega
  have hr : (roundN n : Int) = if t < 0 then t + 255 else t := by
    rw [← ht]
    unfold roundN
    rcases Int.lt_or_le n 0 with h | h
    · rw [tmod_neg h]
      split <;> omega
    · rw [tmod_pos h]
      split <;> omega
  by_cases hn : t < 0
  · rw [if_pos hn] at hr
    have hw1 : IntKind.i64.wrap (t + 255) = t + 255 := IntWalk.i64_in _ (by omega)
    have HR := Lib.hid hr
    clear hr
    go_enter Try.func71, Try.ntmps71
    go_wp2
    go_ret
    refine ⟨?_, rfl⟩
    rw [HR.out]
    first | rfl | simp [hw1]
  · rw [if_neg hn] at hr
    have HR := Lib.hid hr
    clear hr
    go_enter Try.func71, Try.ntmps71
    go_wp2
    go_ret
    refine ⟨?_, rfl⟩
    rw [HR.out]
    rfl

theorem pw_sq (x : UInt8) (n : Nat) : Gf.pw (Gf.mul x x) n = Gf.pw x (2 * n) := by
  have h : Gf.mul x x = Gf.pw x 2 := by
    show _ = Gf.mul (Gf.mul 1 x) x
    rw [Gf.one_mul]
  rw [h, Gf.pw_mul]
theorem powL_round {a : UInt8} (h : a ≠ 0) (n : Int) : powL a n = Gf.pw a (roundN n) := by
  obtain ⟨K, hK⟩ : ∃ K, n.natAbs % 255 = K := ⟨_, rfl⟩
  rcases Int.lt_or_le n 0 with hn | hn
  · have hr : roundN n = (255 - K) % 255 := by unfold roundN; omega
    obtain ⟨m, hm⟩ : ∃ m : Nat, n = -(m : Int) := ⟨n.natAbs, by omega⟩
    rw [hr, hm, powL_neg h, Gf.pw_mod h]
    refine (Gf.inv_uniq ?_).symm
    have hmK : Gf.pw a m = Gf.pw a K := by
      rw [← Gf.pw_mod h m, ← hK, hm]
      simp
    rw [hmK, ← Gf.pw_add, show K + (255 - K) = 255 by omega, Gf.pw_255 h]
  · obtain ⟨m, hm⟩ : ∃ m : Nat, n = (m : Int) := ⟨n.natAbs, by omega⟩
    have hr : roundN n = m % 255 := by unfold roundN; omega
    rw [hr, hm, powL_pw h, Gf.pw_mod h]

set_option maxRecDepth 100000 in
set_option maxHeartbeats 2000000 in
theorem power_says (P : Option Addr) (a : UInt8) (n : Int) (w : World) : Calls Try.prog 70 #[.pointer P, .int .u8 (a.toNat : Int), .int .i64 n] w fun e w' => e = .returned (.int .u8 ((powL a n).toNat : Int)) ∧ w' = w := by
  by_cases hn : n = 0
  · subst hn
    rw [powL_at]
    go_enter Try.func70, Try.ntmps70
    go_wp2
    go_ret
    exact ⟨rfl, rfl⟩
  by_cases ha : a = 0
  · subst ha
    rw [powL_zero n hn]
    go_enter Try.func70, Try.ntmps70
    go_wp2
    go_ret
    exact ⟨rfl, rfl⟩
  rw [powL_round ha]
  have hcn : ¬ (a.toNat : Int) = 0 := by have := Gf.toNat_ne ha; omega
  have hcr := round_says n w
  have hK := roundN_lt n
  generalize roundN n = K at hcr hK ⊢
  clear ha
  go_enter Try.func70, Try.ntmps70
  go_wp2_with (go_at_call 71; refine hcr.mono ?_; rintro e w1 ⟨rfl, hw1⟩; obtain rfl : w = w1 := hw1.symm)
  go_loopw [1, 7, 8] (fun x o i wr => ∃ (l : Nat) (x' o' : UInt8), l < 255 ∧ i = .int .i64 (l : Int) ∧ x = .int .u8 (x'.toNat : Int) ∧ o = .int .u8 (o'.toNat : Int) ∧ Hid (wr = w ∧ Gf.mul o' (Gf.pw x' l) = Gf.pw a K)) (fun _ _ i _ => (intOf i).toNat)
  case atStart => exact ⟨K, a, 1, hK, rfl, rfl, rfl, Lib.hid ⟨rfl, Gf.one_mul _⟩⟩
  case round =>
    obtain ⟨l, x, o, hl, rfl, rfl, rfl, H⟩ := hrel
    have hw' : w = wr := H.out.1.symm
    subst hw'
    have HE := Lib.hid H.out.2
    clear H
    by_cases h0 : 0 < l
    · have l1 : (0 : Int) < (l : Int) := by omega
      have hq : (l : Int).tdiv 2 = ((l / 2 : Nat) : Int) := by rw [Int.tdiv_eq_ediv_of_nonneg (by omega)]; omega
      have hm : (l : Int).tmod 2 = ((l % 2 : Nat) : Int) := by rw [Int.tmod_eq_emod_of_nonneg (by omega)]; omega
      have hwq : IntKind.i64.wrap ((l / 2 : Nat) : Int) = ((l / 2 : Nat) : Int) := IntWalk.i64_in _ (by omega)
      rcases Nat.mod_two_eq_zero_or_one l with h2 | h2
      · rw [h2] at hm
        have HX := Lib.hid (show Gf.mul o (Gf.pw (Gf.mul x x) (l / 2)) = Gf.pw a K from by rw [pw_sq, show 2 * (l / 2) = l by omega]; exact HE.out)
        have HL := Lib.hid (show l / 2 < 255 ∧ l / 2 < l from by omega)
        generalize l / 2 = q at hq hwq HX HL
        go_wp2_with (go_at_call 62; refine (mul_says P x x _).mono ?_; rintro e w1 ⟨rfl, rfl⟩)
        go_roundw
        case rel => exact ⟨q, Gf.mul x x, o, HL.out.1, rfl, rfl, rfl, Lib.hid ⟨trivial, HX.out⟩⟩
        case measure => have := HL.out.2; simp [intOf]; omega
      · rw [h2] at hm
        have HX := Lib.hid (show Gf.mul (Gf.mul o x) (Gf.pw (Gf.mul x x) (l / 2)) = Gf.pw a K from by
          rw [pw_sq, Gf.mul_assoc, ← Gf.pw_succ_left, show 2 * (l / 2) + 1 = l by omega]; exact HE.out)
        have HL := Lib.hid (show l / 2 < 255 ∧ l / 2 < l from by omega)
        generalize l / 2 = q at hq hwq HX HL
        go_wp2_with (first
          | (go_at_call 62; with_reducible refine (mul_says P o x _).mono ?_; rintro e w1 ⟨rfl, hw1⟩; obtain rfl : w = w1 := hw1.symm)
          | (go_at_call 62; with_reducible refine (mul_says P x x _).mono ?_; rintro e w1 ⟨rfl, hw1⟩; obtain rfl : w = w1 := hw1.symm))
        go_roundw
        case rel => exact ⟨q, Gf.mul x x, Gf.mul o x, HL.out.1, rfl, rfl, rfl, Lib.hid ⟨trivial, HX.out⟩⟩
        case measure => have := HL.out.2; simp [intOf]; omega
    · obtain rfl : l = 0 := by omega
      have l1 : ¬ (0 : Int) < ((0 : Nat) : Int) := by omega
      have HO := Lib.hid (show o = Gf.pw a K from by rw [← HE.out]; exact (Gf.mul_one o).symm)
      go_wp2
      go_ret
      refine ⟨?_, rfl⟩
      rw [← HO.out]
      rfl

theorem inv_pow (a : UInt8) : powL a 254 = Gf.inv a := by
  by_cases h : a = 0
  · subst h
    rw [powL_zero _ (by omega), Gf.inv_zero]
  · rw [powL_round h, show roundN 254 = 254 from rfl]
    refine Gf.inv_uniq ?_
    rw [← Gf.pw_succ_left]
    exact Gf.pw_255 h
set_option maxRecDepth 100000 in
theorem inv_says (P : Option Addr) (a : UInt8) (w : World) : Calls Try.prog 64 #[.pointer P, .int .u8 (a.toNat : Int)] w fun e w' => e = .returned (.int .u8 ((Gf.inv a).toNat : Int)) ∧ w' = w := by
  have h := power_says P a 254 w
  rw [inv_pow] at h
  go_enter Try.func64, Try.ntmps64
  go_wp2_with (go_at_call 70; refine h.mono ?_; rintro e w1 ⟨rfl, rfl⟩)
  go_ret
  exact ⟨rfl, rfl⟩

set_option maxRecDepth 100000 in
theorem new_says (w : World) : Calls Try.prog 38 #[] w fun e w' => ∃ P, e = .returned (.pointer P) ∧ Below w.heap.size w w' := by
  have HB := Lib.hid (Below.refl w.heap.size w)
  go_enter Try.func38, Try.ntmps38
  go_wp2
  go_ret
  exact ⟨_, rfl, HB.out.alloc HB.out.size _⟩
end Go.Proofs.Ytpbkabgjpieggaa


namespace Go.Proofs.Ytpbkabgjpieggaa
open Go.RowKit

/-- A list of bytes handed back, in new memory. -/
def GivesN (w : World) (l : List UInt8) (e : Ending) (w' : World) : Prop := ∃ A n c, e = .returned (.slice A n c) ∧ Lies w' (fun b => w.heap.size ≤ b) A n c (bc l) ∧ Below w.heap.size w w'
theorem Below.of_eq {w w' : World} (h : w' = w) : Below w.heap.size w w' := h ▸ Below.refl _ _
/-- What the field's sums and products tell. -/
structure GfB : Prop where
  add : ∀ (P : Option Addr) (a b : UInt8) (w : World), Calls Try.prog 53 #[.pointer P, .int .u8 (a.toNat : Int), .int .u8 (b.toNat : Int)] w fun e w' => e = .returned (.int .u8 ((a ^^^ b).toNat : Int)) ∧ Below w.heap.size w w'
  mul : ∀ (P : Option Addr) (a b : UInt8) (w : World), Calls Try.prog 62 #[.pointer P, .int .u8 (a.toNat : Int), .int .u8 (b.toNat : Int)] w fun e w' => e = .returned (.int .u8 ((Gf.mul a b).toNat : Int)) ∧ Below w.heap.size w w'

theorem GfB.addG (C : GfB) (P : Option Addr) (a b : UInt8) {wr : World} (q : Grows wr) : Calls Try.prog 53 #[.pointer P, .int .u8 (a.toNat : Int), .int .u8 (b.toNat : Int)] q.val fun e w'' => e = .returned (.int .u8 ((a ^^^ b).toNat : Int)) ∧ ∃ p' : Grows wr, w'' = p'.val :=
  (C.add P a b q.val).mono fun _ w'' hh => ⟨hh.1, ⟨w'', q.prop.trans (hh.2.mono q.prop.size)⟩, rfl⟩
theorem GfB.mulG (C : GfB) (P : Option Addr) (a b : UInt8) {wr : World} (q : Grows wr) : Calls Try.prog 62 #[.pointer P, .int .u8 (a.toNat : Int), .int .u8 (b.toNat : Int)] q.val fun e w'' => e = .returned (.int .u8 ((Gf.mul a b).toNat : Int)) ∧ ∃ p' : Grows wr, w'' = p'.val :=
  (C.mul P a b q.val).mono fun _ w'' hh => ⟨hh.1, ⟨w'', q.prop.trans (hh.2.mono q.prop.size)⟩, rfl⟩

theorem ev_drop (p : List UInt8) (x : UInt8) (j : Nat) (u : UInt8) (hu : p[j]? = some u) : Gf.ev (p.drop j) x = Gf.mul (Gf.ev (p.drop (j + 1)) x) x ^^^ u := by
  obtain ⟨h1, rfl⟩ := List.getElem?_eq_some_iff.mp hu
  rw [List.drop_eq_getElem_cons h1, Gf.ev, Gf.mul_comm, UInt8.xor_comm]

/-- The code as it landed. -/
theorem gfB : GfB := ⟨fun P a b w => (add_says P a b w).mono fun _ _ h => ⟨h.1, Below.of_eq h.2⟩, fun P a b w => (mul_says P a b w).mono fun _ _ h => ⟨h.1, Below.of_eq h.2⟩⟩
end Go.Proofs.Ytpbkabgjpieggaa


namespace Go.Proofs.Ytpbkabgjpieggaa
open Go.RowKit

def scaleAt (a : List UInt8) (x : UInt8) (k i : Nat) : UInt8 := if i < k then Gf.mul (a.getD i 0) x else 0
theorem scale_step (a : List UInt8) (x : UInt8) (n k : Nat) (u : UInt8) (hu : a[k]? = some u) : (byRule n (scaleAt a x k)).set k (Gf.mul u x) = byRule n (scaleAt a x (k + 1)) := by
  have e : Gf.mul u x = scaleAt a x (k + 1) k := by simp [scaleAt, List.getD_eq_getElem?_getD, hu]
  rw [e]
  refine byRule_set n _ _ k (fun i hi => ?_)
  unfold scaleAt
  by_cases h : i < k
  · rw [if_pos h, if_pos (by omega)]
  · rw [if_neg h, if_neg (by omega)]
theorem scale_zero (a : List UInt8) (x : UInt8) (n : Nat) : byRule n (scaleAt a x 0) = List.replicate n 0 := by
  rw [← byRule_zero]
  congr 1
theorem scale_all (a : List UInt8) (x : UInt8) (n : Nat) (hn : a.length = n) : byRule n (scaleAt a x n) = a.map (fun y => Gf.mul y x) := by
  apply List.ext_getElem
  · simp [byRule_length, hn]
  · intro i h1 h2
    have h3 : i < n := by rw [byRule_length] at h1; exact h1
    simp [byRule, scaleAt, h3, List.getD_eq_getElem?_getD, List.getElem?_eq_getElem (show i < a.length by omega)]

set_option maxRecDepth 100000 in
set_option maxHeartbeats 2000000 in
theorem scale_of (C : GfB) (P : Option Addr) (A : Option Addr) (n c : Nat) (a : List UInt8) (x : UInt8) (w : World) (hp : Lies w (fun _ => True) A n c (bc a)) (hn : n ≤ 2000) : Calls Try.prog 49 #[.pointer P, .slice A n c, .int .u8 (x.toNat : Int)] w (GivesN w (a.map (fun y => Gf.mul y x))) := by
  have HP := Lib.hid hp
  have hl : a.length = n := by rw [← bc_length]; exact hp.len
  clear hp
  obtain ⟨i0, hi0, hz0, hz1, hz2⟩ := info_parts Try.byteInfo
  go_enter Try.func49, Try.ntmps49
  go_upto_region 2 with (at_make; refine wpList_make_full _ rfl _ _ 31 rfl w.heap.size 5 i0 _ 1 Try.underlying31 hi0 hz0 hz1 _ _ _ _ n rfl rfl rfl rfl (by rw [hz2]; omega) (by unfold maxLen; omega) (Nat.le_refl _) ?_; intro w1 hown1 hg1)
  rw [zero_made] at hown1
  have HB1 := Lib.hid (And.intro (box_own hown1) ((Below.refl w.heap.size w).grown hg1 (Nat.le_refl _) (fun k hk => by cases hk)))
  clear hown1 hg1
  go_wp2_with fail
  go_loopw [8, 9, 15] (fun _ _ i wr => ∃ (k : Nat), k ≤ n ∧ i = .int .i64 (k : Int) ∧ Hid (Box wr w.heap.size 5 (bc (byRule n (scaleAt a x k))).toArray ∧ Below w.heap.size w wr)) (fun _ _ i _ => n - (intOf i).toNat)
  case atStart => exact ⟨0, by omega, rfl, Lib.hid ⟨by rw [scale_zero]; exact HB1.out.1, HB1.out.2⟩⟩
  case round =>
    obtain ⟨k, hk, rfl, H⟩ := hrel
    by_cases hlt : k < n
    · have l1 : (k : Int) < (n : Int) := by omega
      obtain ⟨u, hu⟩ : ∃ u, a[k]? = some u := ⟨_, List.getElem?_eq_getElem (by omega)⟩
      obtain ⟨b, off, hA, _, hb, hc0⟩ := HP.out.at (j := k) (u := .int .u8 (u.toNat : Int)) (by simp [bc, hu])
      subst hA
      have hc : wr.cell? ⟨b, off + k, none⟩ = some (.int .u8 (u.toNat : Int)) := (H.out.2.cell (p := ⟨b, off + k, none⟩) hb).trans hc0
      have HST := Lib.hid (scale_step a x n k u hu)
      have HM := Lib.hid (C.mul P u x wr)
      obtain ⟨z, hz⟩ : ∃ z, Gf.mul u x = z := ⟨_, rfl⟩
      rw [hz] at HST HM
      clear hc0 hb hu hz
      go_wp2_with (go_at_call 62; refine HM.out.mono ?_; rintro e wn ⟨rfl, hbn⟩; have hbx := H.out.1.below hbn (Box.lt H.out.1); have hc2 := box_at hbx (byRule_at n (scaleAt a x k) k hlt); have hf2 := Box.frozen hbx k; have HBX := Lib.hid hbx; have HBN := Lib.hid hbn; clear hbx hbn)
      go_roundw
      case rel => exact ⟨k + 1, by omega, by go_num, Lib.hid ⟨by rw [← HST.out]; exact box_set HBX.out k z, (H.out.2.trans (HBN.out.mono H.out.2.size)).setCell (p := ⟨w.heap.size, k, none⟩) (Nat.le_refl _) _⟩⟩
      case measure => simp [intOf]; omega
    · obtain rfl : k = n := by omega
      have l1 : ¬ (k : Int) < (k : Int) := by omega
      go_wp2
      go_ret
      refine ⟨_, _, _, rfl, ?_, H.out.2⟩
      rw [← scale_all a x k hl]
      exact lies_box H.out.1 (Nat.le_refl _) (byRule_length _ _)
end Go.Proofs.Ytpbkabgjpieggaa


namespace Go.Proofs.Ytpbkabgjpieggaa
open Go.RowKit

/-- 'copy(dst, src)' of bytes into a block of the call's own that has room for all. -/
theorem wpList_copy_bytes {w : World} {ops : Array Oper} {rest : List Oper} {o : Oper} {a : Act} {Q : Exit → Act → World → Prop} (hgd : o.guard = none) (d s : Operand)
    (ho : o.op = .call { callee := .builtin .copy, args := #[d, s], argTypes := #[31, 31] })
    (g t t' n c : Nat) (A : Option Addr) (hd : a.eval d = .slice (some ⟨g, 0, none⟩) t t') (hs : a.eval s = .slice A n c)
    (l : List UInt8) (hg : Box w g 5 (bc l).toArray) (N : Nat → Prop) (xs : List UInt8) (hx : Lies w N A n c (bc xs)) (hfit : n ≤ t) (hlt : l.length = t)
    (h : ∀ w', Box w' g 5 (bc (xs ++ l.drop n)).toArray → w.grownBy w' (some g) → wpList Try.prog ops Q rest (a.put o.dst (goInt n)) w') : wpList Try.prog ops Q (o :: rest) a w := by
  refine wpList_plain hgd fun K hK => ?_
  have hxl : xs.length = n := by rw [← bc_length]; exact hx.1
  have hrun : (Builtin.copy_ #[31, 31] o.type #[.slice (some ⟨g, 0, none⟩) t t', .slice A n c]).run Try.prog w = .ok (goInt n) (w.setRow g (bc (xs ++ l.drop n)).toArray) := by
    have hst := run_storeCells_at Try.prog g 0 5 (bc xs) 0 (bc l).toArray w hg (by rw [bc_length, hxl]; simp [bc_length, hlt]; omega) (bc_one xs)
    have hdr : (bc l).drop n = bc (l.drop n) := by simp [bc, List.map_drop]
    simp only [Nat.add_zero, bc_length, hxl, List.take_zero, List.nil_append, Nat.zero_add, hdr, ← bc_append] at hst
    have hld : (Builtin.firstCells 1 n (.slice A n c)).run Try.prog w = .ok (bc xs).toArray w := by
      rcases Nat.eq_zero_or_pos n with h0 | h0
      · subst h0
        obtain rfl : xs = [] := List.eq_nil_of_length_eq_zero hxl
        cases A <;> simp [Builtin.firstCells, loadCells, loadCellsFrom, bc]
      · obtain ⟨ad, rfl, _, _, hr⟩ := hx.2.2 h0
        have := run_loadCells_list (P := Try.prog) w ad (bc xs) (fun j v hv => hr j v hv)
        rw [bc_length, hxl] at this
        simp [Builtin.firstCells, this]
    have hmin : n.min t = n := Nat.min_eq_left hfit
    simp [Builtin.copy_, run_underlying Try.underlying31, Builtin.lenOf, Try.sizeOf5, hmin, hld, hst]
  unfold Oper.wp
  simp [execOp, ho, resolve, invoke, builtin, hd, hs, hrun, Result.andThen]
  refine hK _ _ (h _ ?_ ?_)
  · exact setRow_heap w g _ _ 5 _ hg
  · exact grown_row (grown_refl w _) _

def sumAt (a b : List UInt8) (k i : Nat) : UInt8 := a.getD i 0 ^^^ (if i < k then b.getD i 0 else 0)
theorem sum_step (a b : List UInt8) (t k : Nat) (v : UInt8) (hv : b[k]? = some v) : (byRule t (sumAt a b k)).set k (sumAt a b k k ^^^ v) = byRule t (sumAt a b (k + 1)) := by
  have e : sumAt a b k k ^^^ v = sumAt a b (k + 1) k := by simp [sumAt, List.getD_eq_getElem?_getD, hv]
  rw [e]
  refine byRule_set t _ _ k (fun i hi => ?_)
  unfold sumAt
  by_cases h : i < k
  · rw [if_pos h, if_pos (by omega)]
  · rw [if_neg h, if_neg (by omega)]
theorem sum_zero (a b : List UInt8) (t n : Nat) (hn : a.length = n) (ht : n ≤ t) : a ++ (List.replicate t (0 : UInt8)).drop n = byRule t (sumAt a b 0) := by
  apply List.ext_getElem
  · simp [byRule_length]; omega
  · intro i h1 h2
    have h3 : i < t := by rw [byRule_length] at h2; exact h2
    by_cases h : i < a.length
    · rw [List.getElem_append_left h]
      simp [byRule, sumAt, h, List.getD_eq_getElem?_getD]
    · rw [List.getElem_append_right (by omega)]
      simp [byRule, sumAt, List.getD_eq_getElem?_getD, List.getElem?_eq_none (show a.length ≤ i by omega)]
theorem sum_all (a b : List UInt8) (t : Nat) (ht : t = max a.length b.length) : byRule t (sumAt a b b.length) = Gf.padd a b := by
  apply List.ext_getElem
  · rw [byRule_length, Gf.padd_length, ht]
  · intro i h1 h2
    have h3 : i < t := by rw [byRule_length] at h1; exact h1
    have e := Gf.padd_get a b i
    rw [List.getD_eq_getElem?_getD, List.getElem?_eq_getElem h2] at e
    rw [show (Gf.padd a b)[i] = a.getD i 0 ^^^ b.getD i 0 from e]
    by_cases h : i < b.length
    · simp [byRule, sumAt, h]
    · simp [byRule, sumAt, h, List.getD_eq_getElem?_getD]

set_option maxRecDepth 100000 in
set_option maxHeartbeats 2000000 in
theorem sum_of (C : GfB) (P : Option Addr) (A : Option Addr) (n c : Nat) (a : List UInt8) (B : Option Addr) (m d : Nat) (b : List UInt8) (w : World) (hp : Lies w (fun _ => True) A n c (bc a)) (hq : Lies w (fun _ => True) B m d (bc b)) (hn : n ≤ 2000) (hm : m ≤ 2000) : Calls Try.prog 44 #[.pointer P, .slice A n c, .slice B m d] w (GivesN w (Gf.padd a b)) := by
  have HP := Lib.hid hp
  have HQ := Lib.hid hq
  have hl : a.length = n := by rw [← bc_length]; exact hp.len
  have hl2 : b.length = m := by rw [← bc_length]; exact hq.len
  clear hp hq
  obtain ⟨i0, hi0, hz0, hz1, hz2⟩ := info_parts Try.byteInfo
  rcases Nat.lt_or_ge n m with hd | hd
  · have hdi : (n : Int) < (m : Int) := by omega
    go_enter Try.func44, Try.ntmps44
    go_upto_region 2 with (at_make; refine wpList_make_full _ rfl _ _ 31 rfl w.heap.size 5 i0 _ 1 Try.underlying31 hi0 hz0 hz1 _ _ _ _ m rfl rfl rfl rfl (by rw [hz2]; omega) (by unfold maxLen; omega) (Nat.le_refl _) ?_; intro w1 hown1 hg1)
    rw [zero_made] at hown1
    have HB1 := Lib.hid (And.intro (box_own hown1) ((Below.refl w.heap.size w).grown hg1 (Nat.le_refl _) (fun k hk => by cases hk)))
    clear hown1 hg1
    go_upto_region 3 with (refine wpList_copy_bytes rfl _ _ rfl w.heap.size m m n c A rfl rfl (List.replicate m 0) HB1.out.1 (fun _ => True) a (HP.out.below HB1.out.2) (by omega) (by simp) ?_; intro w2 hbx2 hg2)
    rw [sum_zero a b m n hl (by omega)] at hbx2
    have HB2 := Lib.hid (And.intro hbx2 (HB1.out.2.trans ((Below.refl _ w1).grown hg2 HB1.out.2.size (fun k hk => by cases hk; exact Nat.le_refl _))))
    clear hbx2 hg2
    go_wp2_with fail
    go_loopw [8, 9, 21] (fun _ _ i wr => ∃ (k : Nat), k ≤ m ∧ i = .int .i64 (k : Int) ∧ Hid (Box wr w.heap.size 5 (bc (byRule m (sumAt a b k))).toArray ∧ Below w.heap.size w wr)) (fun _ _ i _ => m - (intOf i).toNat)
    case atStart => exact ⟨0, by omega, rfl, HB2⟩
    case round =>
      obtain ⟨k, hk, rfl, H⟩ := hrel
      by_cases hlt : k < m
      · have l1 : (k : Int) < (m : Int) := by omega
        have l2 : (k : Int) < (m : Int) := by omega
        obtain ⟨v, hv⟩ : ∃ u, b[k]? = some u := ⟨_, List.getElem?_eq_getElem (by omega)⟩
        obtain ⟨g, off, hA, _, hb, hc0⟩ := HQ.out.at (j := k) (u := .int .u8 (v.toNat : Int)) (by simp [bc, hv])
        subst hA
        have hc : wr.cell? ⟨g, off + k, none⟩ = some (.int .u8 (v.toNat : Int)) := (H.out.2.cell (p := ⟨g, off + k, none⟩) hb).trans hc0
        obtain ⟨u, hu⟩ : ∃ u, sumAt a b k k = u := ⟨_, rfl⟩
        have hat := byRule_at m (sumAt a b k) k (by omega)
        have HST := Lib.hid (sum_step a b m k v hv)
        rw [hu] at hat HST
        have hcu := box_at H.out.1 hat
        have HAT := Lib.hid hat
        have HM := Lib.hid (C.add P u v wr)
        obtain ⟨z, hz⟩ : ∃ z, u ^^^ v = z := ⟨_, rfl⟩
        rw [hz] at HST HM
        clear hc0 hb hu hz hv hat
        go_wp2_with (go_at_call 53; refine HM.out.mono ?_; rintro e wn ⟨rfl, hbn⟩; have hbx := H.out.1.below hbn (Box.lt H.out.1); have hc2 := box_at hbx HAT.out; have hf2 := Box.frozen hbx k; have HBX := Lib.hid hbx; have HBN := Lib.hid hbn; clear hbx hbn)
        go_roundw
        case rel => exact ⟨k + 1, by omega, by go_num, Lib.hid ⟨by rw [← HST.out]; exact box_set HBX.out k z, (H.out.2.trans (HBN.out.mono H.out.2.size)).setCell (p := ⟨w.heap.size, k, none⟩) (Nat.le_refl _) _⟩⟩
        case measure => simp [intOf]; omega
      · obtain rfl : k = m := by omega
        have l1 : ¬ (k : Int) < (k : Int) := by omega
        go_wp2
        go_ret
        refine ⟨_, _, _, rfl, ?_, H.out.2⟩
        rw [← sum_all a b k (by omega), hl2]
        exact lies_box H.out.1 (Nat.le_refl _) (byRule_length _ _)
  · have hdn : ¬ n < m := by omega
    have hdi : ¬ (n : Int) < (m : Int) := by omega
    go_enter Try.func44, Try.ntmps44
    go_upto_region 2 with (at_make; refine wpList_make_full _ rfl _ _ 31 rfl w.heap.size 5 i0 _ 1 Try.underlying31 hi0 hz0 hz1 _ _ _ _ n rfl rfl rfl rfl (by rw [hz2]; omega) (by unfold maxLen; omega) (Nat.le_refl _) ?_; intro w1 hown1 hg1)
    rw [zero_made] at hown1
    have HB1 := Lib.hid (And.intro (box_own hown1) ((Below.refl w.heap.size w).grown hg1 (Nat.le_refl _) (fun k hk => by cases hk)))
    clear hown1 hg1
    go_upto_region 3 with (refine wpList_copy_bytes rfl _ _ rfl w.heap.size n n n c A rfl rfl (List.replicate n 0) HB1.out.1 (fun _ => True) a (HP.out.below HB1.out.2) (by omega) (by simp) ?_; intro w2 hbx2 hg2)
    rw [sum_zero a b n n hl (by omega)] at hbx2
    have HB2 := Lib.hid (And.intro hbx2 (HB1.out.2.trans ((Below.refl _ w1).grown hg2 HB1.out.2.size (fun k hk => by cases hk; exact Nat.le_refl _))))
    clear hbx2 hg2
    go_wp2_with fail
    go_loopw [8, 9, 21] (fun _ _ i wr => ∃ (k : Nat), k ≤ m ∧ i = .int .i64 (k : Int) ∧ Hid (Box wr w.heap.size 5 (bc (byRule n (sumAt a b k))).toArray ∧ Below w.heap.size w wr)) (fun _ _ i _ => m - (intOf i).toNat)
    case atStart => exact ⟨0, by omega, rfl, HB2⟩
    case round =>
      obtain ⟨k, hk, rfl, H⟩ := hrel
      by_cases hlt : k < m
      · have l1 : (k : Int) < (m : Int) := by omega
        have l2 : (k : Int) < (n : Int) := by omega
        obtain ⟨v, hv⟩ : ∃ u, b[k]? = some u := ⟨_, List.getElem?_eq_getElem (by omega)⟩
        obtain ⟨g, off, hA, _, hb, hc0⟩ := HQ.out.at (j := k) (u := .int .u8 (v.toNat : Int)) (by simp [bc, hv])
        subst hA
        have hc : wr.cell? ⟨g, off + k, none⟩ = some (.int .u8 (v.toNat : Int)) := (H.out.2.cell (p := ⟨g, off + k, none⟩) hb).trans hc0
        obtain ⟨u, hu⟩ : ∃ u, sumAt a b k k = u := ⟨_, rfl⟩
        have hat := byRule_at n (sumAt a b k) k (by omega)
        have HST := Lib.hid (sum_step a b n k v hv)
        rw [hu] at hat HST
        have hcu := box_at H.out.1 hat
        have HAT := Lib.hid hat
        have HM := Lib.hid (C.add P u v wr)
        obtain ⟨z, hz⟩ : ∃ z, u ^^^ v = z := ⟨_, rfl⟩
        rw [hz] at HST HM
        clear hc0 hb hu hz hv hat
        go_wp2_with (go_at_call 53; refine HM.out.mono ?_; rintro e wn ⟨rfl, hbn⟩; have hbx := H.out.1.below hbn (Box.lt H.out.1); have hc2 := box_at hbx HAT.out; have hf2 := Box.frozen hbx k; have HBX := Lib.hid hbx; have HBN := Lib.hid hbn; clear hbx hbn)
        go_roundw
        case rel => exact ⟨k + 1, by omega, by go_num, Lib.hid ⟨by rw [← HST.out]; exact box_set HBX.out k z, (H.out.2.trans (HBN.out.mono H.out.2.size)).setCell (p := ⟨w.heap.size, k, none⟩) (Nat.le_refl _) _⟩⟩
        case measure => simp [intOf]; omega
      · obtain rfl : k = m := by omega
        have l1 : ¬ (k : Int) < (k : Int) := by omega
        go_wp2
        go_ret
        refine ⟨_, _, _, rfl, ?_, H.out.2⟩
        rw [← sum_all a b n (by omega), hl2]
        exact lies_box H.out.1 (Nat.le_refl _) (byRule_length _ _)
end Go.Proofs.Ytpbkabgjpieggaa

