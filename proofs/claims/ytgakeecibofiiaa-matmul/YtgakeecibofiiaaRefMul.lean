/-
  The reference's product of two numbers of the field.
-/
import Derived.Test.YtgakeecibofiiaaProg
import Derived.Test.YtgakeecibofiiaaBase
import Derived.Test.YtgakeecibofiiaaPoly
import Derived.WalkKit
import Derived.WalkLawsBesides
namespace Go.Proofs.Ytgakeecibofiiaa
open Go.RowKit

theorem ofInt64 (x : Nat) (h : x < 4611686018427387904) : (BitVec.ofInt 64 (x : Int)).toNat = x := by
  rw [BitVec.toNat_ofInt]
  omega
theorem bits_x64 (x y : Nat) (hx : x < 4611686018427387904) (hy : y < 4611686018427387904) : bits .xor .i64 (x : Int) (y : Int) = ((x ^^^ y : Nat) : Int) := by
  have h : bits .xor .i64 (x : Int) (y : Int) = IntKind.i64.wrap (((BitVec.ofInt 64 (x : Int) ^^^ BitVec.ofInt 64 (y : Int)).toNat : Nat) : Int) := rfl
  have hl : x ^^^ y < 4611686018427387904 := Nat.xor_lt_two_pow (n := 62) hx hy
  rw [h, BitVec.toNat_xor, ofInt64 x hx, ofInt64 y hy]
  exact IntWalk.i64_in _ (by omega)
theorem bits_x8 (a b : UInt8) : bits .xor .u8 (a.toNat : Int) (b.toNat : Int) = ((a ^^^ b).toNat : Int) := by
  have h : bits .xor .u8 (a.toNat : Int) (b.toNat : Int) = IntKind.u8.wrap (((BitVec.ofInt 8 (a.toNat : Int) ^^^ BitVec.ofInt 8 (b.toNat : Int)).toNat : Nat) : Int) := rfl
  have e : ∀ c : UInt8, (BitVec.ofInt 8 (c.toNat : Int)).toNat = c.toNat := fun c => by
    have := c.toNat_lt
    rw [BitVec.toNat_ofInt]
    omega
  have hl := (a ^^^ b).toNat_lt
  rw [h, BitVec.toNat_xor, e, e, ← UInt8.toNat_xor]
  have : IntKind.u8.wrap ((a ^^^ b).toNat : Int) = (((a ^^^ b).toNat % 256 : Nat) : Int) := by
    rw [IntKind.wrap_u8']
    omega
  rw [this, Nat.mod_eq_of_lt (by omega)]

/-- So many parts of a product. -/
def clTo (a b : Nat) : Nat → Nat
  | 0 => 0
  | k + 1 => clTo a b k ^^^ Gf.part a b k
theorem clTo_all (a b : Nat) : clTo a b 8 = Gf.cl a b := by simp [clTo, Gf.cl]
theorem part_lt (a b i : Nat) (ha : a < 256) (hi : i < 8) : Gf.part a b i < 32768 := by
  unfold Gf.part
  split
  · rw [Nat.shiftLeft_eq]
    have : 2 ^ i ≤ 2 ^ 7 := Nat.pow_le_pow_right (by omega) (by omega)
    calc a * 2 ^ i ≤ 255 * 2 ^ 7 := Nat.mul_le_mul (by omega) this
      _ < 32768 := by decide
  · omega
theorem clTo_lt (a b : Nat) (ha : a < 256) : ∀ k, k ≤ 8 → clTo a b k < 32768
  | 0, _ => by simp [clTo]
  | k + 1, h => Nat.xor_lt_two_pow (n := 15) (clTo_lt a b ha k (by omega)) (part_lt a b k ha (by omega))
/-- What is left behind so many steps. -/
def redTo (p : Nat) : Nat → Nat
  | 0 => p
  | n + 1 => Gf.step (14 - n) (redTo p n)
theorem redTo_all (p : Nat) : redTo p 7 = Gf.red p := rfl
theorem step_lt (i p : Nat) (hi : 8 ≤ i) (hi2 : i ≤ 14) (hp : p < 32768) : Gf.step i p < 32768 := by
  unfold Gf.step
  split
  · refine Nat.xor_lt_two_pow (n := 15) hp ?_
    rw [Nat.shiftLeft_eq]
    have : 2 ^ (i - 8) ≤ 2 ^ 6 := Nat.pow_le_pow_right (by omega) (by omega)
    calc 285 * 2 ^ (i - 8) ≤ 285 * 2 ^ 6 := Nat.mul_le_mul (by omega) this
      _ < 2 ^ 15 := by decide
  · exact hp
theorem redTo_lt (p : Nat) (hp : p < 32768) : ∀ n, n ≤ 7 → redTo p n < 32768
  | 0, _ => hp
  | n + 1, h => step_lt _ _ (by omega) (by omega) (redTo_lt p hp n (by omega))
theorem bit_yes {x k : Nat} (h : (((x : Int) / 2 ^ k).tmod 2 == 1) = true) : x.testBit k = true := by
  rw [Nat.testBit_eq_decide_div_mod_eq]
  have e : ((x : Int) / 2 ^ k) = ((x / 2 ^ k : Nat) : Int) := by simp
  rw [e] at h
  generalize x / 2 ^ k = d at h ⊢
  have h2 : (d : Int).tmod 2 = ((d % 2 : Nat) : Int) := by rw [Int.tmod_eq_emod_of_nonneg (Int.natCast_nonneg _)]; omega
  rw [h2] at h
  simp at h
  simp
  omega
theorem bit_no {x k : Nat} (h : (((x : Int) / 2 ^ k).tmod 2 == 1) = false) : x.testBit k = false := by
  rw [Nat.testBit_eq_decide_div_mod_eq]
  have e : ((x : Int) / 2 ^ k) = ((x / 2 ^ k : Nat) : Int) := by simp
  rw [e] at h
  generalize x / 2 ^ k = d at h ⊢
  have h2 : (d : Int).tmod 2 = ((d % 2 : Nat) : Int) := by rw [Int.tmod_eq_emod_of_nonneg (Int.natCast_nonneg _)]; omega
  rw [h2] at h
  simp at h
  simp
  omega

set_option maxRecDepth 100000 in
set_option maxHeartbeats 1000000 in
theorem rmul_says (a b : UInt8) (w : World) : Calls Try.prog 33 #[.int .u8 (a.toNat : Int), .int .u8 (b.toNat : Int)] w fun e w' => e = .returned (.int .u8 ((Gf.mul a b).toNat : Int)) ∧ w' = w := by
  rw [Gf.mul_toNat]
  have ha : a.toNat < 256 := a.toNat_lt
  have hb : b.toNat < 256 := b.toNat_lt
  generalize a.toNat = x at ha ⊢
  generalize b.toNat = y at hb ⊢
  have HG := Lib.hid (Gf.gm_lt x y ha hb)
  go_enter Try.func33, Try.ntmps33
  go_wp2_with fail
  go_loopw [5, 6] (fun p i wr => ∃ k : Nat, k ≤ 8 ∧ i = .int .i64 (k : Int) ∧ p = .int .i64 (clTo x y k : Int) ∧ Hid (wr = w)) (fun _ i _ => 8 - (intOf i).toNat)
  case atStart => exact ⟨0, by omega, rfl, rfl, Lib.hid rfl⟩
  case round =>
    obtain ⟨k, hk, rfl, rfl, hw⟩ := hrel
    have hw' : w = wr := hw.out.symm
    subst hw'
    clear hw
    by_cases hlt : k < 8
    · have l1 : (k : Int) < 8 := by omega
      have hc := clTo_lt x y ha k hk
      have hsh : wrap64 ((x : Int) * 2 ^ k) = ((x <<< k : Nat) : Int) := by
        rw [Nat.shiftLeft_eq]
        have h1 : 2 ^ k ≤ 2 ^ 7 := Nat.pow_le_pow_right (by omega) (by omega)
        have h2 : x * 2 ^ k ≤ 255 * 2 ^ 7 := Nat.mul_le_mul (by omega) h1
        have h3 : ((x : Int) * 2 ^ k) = ((x * 2 ^ k : Nat) : Int) := by simp
        rw [h3]
        generalize x * 2 ^ k = d at h2 ⊢
        exact IntWalk.wrap64_in (d : Int) (by omega)
      have HX := Lib.hid (show x <<< k < 4611686018427387904 from by
        rw [Nat.shiftLeft_eq]
        have h1 : 2 ^ k ≤ 2 ^ 7 := Nat.pow_le_pow_right (by omega) (by omega)
        have h2 : x * 2 ^ k ≤ 255 * 2 ^ 7 := Nat.mul_le_mul (by omega) h1
        omega)
      have HS := Lib.hid hsh
      have HC := Lib.hid hc
      clear hsh hc
      rcases Bool.eq_false_or_eq_true (((y : Int) / 2 ^ k).tmod 2 == 1) with hbit | hbit
      · have HP := Lib.hid (show Gf.part x y k = x <<< k from by rw [Gf.part, bit_yes hbit]; rfl)
        go_wp2_with fail
        go_roundw
        case rel =>
          refine ⟨k + 1, by omega, by go_num, ?_, Lib.hid trivial⟩
          rw [HS.out, bits_x64 _ _ (by have := HC.out; omega) HX.out, clTo, HP.out]
        case measure => simp [intOf]; omega
      · have HP := Lib.hid (show Gf.part x y k = 0 from by rw [Gf.part, bit_no hbit]; rfl)
        go_wp2_with fail
        go_roundw
        case rel => exact ⟨k + 1, by omega, by go_num, by rw [clTo, HP.out, Nat.xor_zero], Lib.hid trivial⟩
        case measure => simp [intOf]; omega
    · obtain rfl : k = 8 := by omega
      have l1 : ¬ ((8 : Nat) : Int) < 8 := by omega
      have hcl := clTo_lt x y ha 8 (by omega)
      rw [clTo_all] at hcl ⊢
      obtain ⟨p, hp⟩ : ∃ p, Gf.cl x y = p := ⟨_, rfl⟩
      have HGM := Lib.hid (show Gf.gm x y = redTo p 7 from by rw [redTo_all, ← hp]; rfl)
      rw [hp] at hcl ⊢
      clear hp
      go_wp2_with fail
      go_loopw [5, 7] (fun q i wr => ∃ n : Nat, n ≤ 7 ∧ i = .int .i64 ((14 - n : Nat) : Int) ∧ q = .int .i64 (redTo p n : Int) ∧ Hid (wr = w)) (fun _ i _ => (intOf i).toNat)
      case atStart => exact ⟨0, by omega, rfl, rfl, Lib.hid rfl⟩
      case round =>
        obtain ⟨n, hn, rfl, rfl, hw⟩ := hrel
        have hw' : w = wr := hw.out.symm
        subst hw'
        clear hw
        by_cases hn2 : n < 7
        · obtain ⟨j, hj⟩ : ∃ j, 14 - n = j := ⟨_, rfl⟩
          have l2 : (8 : Int) ≤ (j : Int) := by omega
          have hj14 : j ≤ 14 := by omega
          have hr := redTo_lt p hcl n (by omega)
          have hst : redTo p (n + 1) = Gf.step j (redTo p n) := by rw [← hj]; rfl
          obtain ⟨q, hq⟩ : ∃ q, redTo p n = q := ⟨_, rfl⟩
          rw [hq] at hr hst ⊢
          rw [hj]
          have hw8 : IntKind.i64.wrap ((j : Int) - 8) = ((j - 8 : Nat) : Int) := by rw [IntWalk.i64_in _ (by omega)]; omega
          have hw1 : IntKind.i64.wrap ((j : Int) - 1) = ((j - 1 : Nat) : Int) := by rw [IntWalk.i64_in _ (by omega)]; omega
          obtain ⟨j8, hj8⟩ : ∃ t, j - 8 = t := ⟨_, rfl⟩
          rw [hj8] at hw8
          have hle : j8 ≤ 6 := by omega
          have hsh : wrap64 (285 * 2 ^ j8) = ((285 <<< j8 : Nat) : Int) := by
            rw [Nat.shiftLeft_eq]
            have h1 : 2 ^ j8 ≤ 2 ^ 6 := Nat.pow_le_pow_right (by omega) hle
            have h2 : 285 * 2 ^ j8 ≤ 285 * 2 ^ 6 := Nat.mul_le_mul (by omega) h1
            have h3 : ((285 : Int) * 2 ^ j8) = ((285 * 2 ^ j8 : Nat) : Int) := by simp
            rw [h3]
            generalize 285 * 2 ^ j8 = d at h2 ⊢
            exact IntWalk.wrap64_in (d : Int) (by omega)
          have HX := Lib.hid (show 285 <<< j8 < 4611686018427387904 from by
            rw [Nat.shiftLeft_eq]
            have h1 : 2 ^ j8 ≤ 2 ^ 6 := Nat.pow_le_pow_right (by omega) hle
            omega)
          have HSH := Lib.hid hsh
          have HST := Lib.hid hst
          have HR := Lib.hid hr
          have HJ := Lib.hid hj8
          have HQ := Lib.hid hq
          have HJN := Lib.hid hj
          clear hsh hst hr hj8 hq hj
          rcases Bool.eq_false_or_eq_true (((q : Int) / 2 ^ j).tmod 2 == 1) with hbit | hbit
          · have HP := Lib.hid (show Gf.step j q = q ^^^ (285 <<< j8) from by rw [Gf.step, bit_yes hbit, HJ.out]; rfl)
            go_wp2_with fail
            go_roundw
            case rel =>
              refine ⟨n + 1, by omega, ?_, ?_, Lib.hid trivial⟩
              · have := HJN.out
                rw [show 14 - (n + 1) = j - 1 by omega]
              · rw [HSH.out, bits_x64 _ _ (by have := HR.out; omega) HX.out, HST.out, HP.out]
            case measure => simp [intOf]; omega
          · have HP := Lib.hid (show Gf.step j q = q from by rw [Gf.step, bit_no hbit]; rfl)
            go_wp2_with fail
            go_roundw
            case rel =>
              refine ⟨n + 1, by omega, ?_, by rw [HST.out, HP.out], Lib.hid trivial⟩
              have := HJN.out
              rw [show 14 - (n + 1) = j - 1 by omega]
            case measure => simp [intOf]; omega
        · obtain rfl : n = 7 := by omega
          have hg := HG.out
          rw [HGM.out] at hg
          obtain ⟨q, hq⟩ : ∃ q, redTo p 7 = q := ⟨_, rfl⟩
          rw [hq] at hg ⊢
          have HQ := Lib.hid (HGM.out.trans hq)
          have hwr : IntKind.u8.wrap (q : Int) = (q : Int) := by rw [IntKind.wrap_u8']; omega
          clear hq
          go_wp2
          go_ret
          refine ⟨?_, rfl⟩
          rw [HQ.out]
          first | rfl | (simp [hwr]; done) | (congr 2; omega)
end Go.Proofs.Ytgakeecibofiiaa
