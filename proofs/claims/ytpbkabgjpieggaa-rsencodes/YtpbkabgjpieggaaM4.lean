/-
  The reference's product of two numbers of the field.
  The reference's inverse.
  The reference's Right and Same.
  The reference's Same.
  The reference's product of two matrices.
  The reference's matrices that change nothing, and Cauchy's.
-/
import Derived.Test.YtpbkabgjpieggaaProg
import Derived.Test.YtpbkabgjpieggaaM1
import Derived.Test.YtpbkabgjpieggaaM2
import Derived.WalkKit
import Derived.WalkLawsBesides
import Derived.BigQuiet
import Derived.Laws.OwnMore
import Derived.OwnWalk
import Derived.Deep.DeepCutAuto
import Derived.Deep.CutBlock

namespace Go.Proofs.Ytpbkabgjpieggaa
open Go.RowKit

theorem ofInt64 (x : Nat) (h : x < 4611686018427387904) : (BitVec.ofInt 64 (x : Int)).toNat = x := by
  rw [BitVec.toNat_ofInt]
  omega
theorem bits_x64 (x y : Nat) (hx : x < 4611686018427387904) (hy : y < 4611686018427387904) : bits .xor .i64 (x : Int) (y : Int) = ((x ^^^ y : Nat) : Int) := by
  have h : bits .xor .i64 (x : Int) (y : Int) = IntKind.i64.wrap (((BitVec.ofInt 64 (x : Int) ^^^ BitVec.ofInt 64 (y : Int)).toNat : Nat) : Int) := rfl
  have hl : x ^^^ y < 4611686018427387904 := Nat.xor_lt_two_pow (n := 62) hx hy
  rw [h, BitVec.toNat_xor, ofInt64 x hx, ofInt64 y hy]
  exact IntWalk.i64_in _ (by omega)
theorem bits_x8 (a b : UInt8) : bits .xor .u8 (a.toNat : Int) (b.toNat : Int) = ((a ^^^ b).toNat : Int) := by
  have h : bits .xor .u8 (a.toNat : Int) (b.toNat : Int) = IntKind.u8.wrap (((BitVec.ofInt 8 (a.toNat : Int) ^^^ BitVec.ofInt 8 (b.toNat : Int)).toNat : Nat) : Int) := rfl
  have e : ∀ c : UInt8, (BitVec.ofInt 8 (c.toNat : Int)).toNat = c.toNat := fun c => by
    have := c.toNat_lt
    rw [BitVec.toNat_ofInt]
    omega
  have hl := (a ^^^ b).toNat_lt
  rw [h, BitVec.toNat_xor, e, e, ← UInt8.toNat_xor]
  have : IntKind.u8.wrap ((a ^^^ b).toNat : Int) = (((a ^^^ b).toNat % 256 : Nat) : Int) := by
    rw [IntKind.wrap_u8']
    omega
  rw [this, Nat.mod_eq_of_lt (by omega)]

/-- So many parts of a product. -/
def clTo (a b : Nat) : Nat → Nat
  | 0 => 0
  | k + 1 => clTo a b k ^^^ Gf.part a b k
theorem clTo_all (a b : Nat) : clTo a b 8 = Gf.cl a b := by simp [clTo, Gf.cl]
theorem part_lt (a b i : Nat) (ha : a < 256) (hi : i < 8) : Gf.part a b i < 32768 := by
  unfold Gf.part
  split
  · rw [Nat.shiftLeft_eq]
    have : 2 ^ i ≤ 2 ^ 7 := Nat.pow_le_pow_right (by omega) (by omega)
    calc a * 2 ^ i ≤ 255 * 2 ^ 7 := Nat.mul_le_mul (by omega) this
      _ < 32768 := by decide
  · omega
theorem clTo_lt (a b : Nat) (ha : a < 256) : ∀ k, k ≤ 8 → clTo a b k < 32768
  | 0, _ => by simp [clTo]
  | k + 1, h => Nat.xor_lt_two_pow (n := 15) (clTo_lt a b ha k (by omega)) (part_lt a b k ha (by omega))
/-- What is left behind so many steps. -/
def redTo (p : Nat) : Nat → Nat
  | 0 => p
  | n + 1 => Gf.step (14 - n) (redTo p n)
theorem redTo_all (p : Nat) : redTo p 7 = Gf.red p := rfl
theorem step_lt (i p : Nat) (hi : 8 ≤ i) (hi2 : i ≤ 14) (hp : p < 32768) : Gf.step i p < 32768 := by
  unfold Gf.step
  split
  · refine Nat.xor_lt_two_pow (n := 15) hp ?_
    rw [Nat.shiftLeft_eq]
    have : 2 ^ (i - 8) ≤ 2 ^ 6 := Nat.pow_le_pow_right (by omega) (by omega)
    calc 285 * 2 ^ (i - 8) ≤ 285 * 2 ^ 6 := Nat.mul_le_mul (by omega) this
      _ < 2 ^ 15 := by decide
  · exact hp
theorem redTo_lt (p : Nat) (hp : p < 32768) : ∀ n, n ≤ 7 → redTo p n < 32768
  | 0, _ => hp
  | n + 1, h => step_lt _ _ (by omega) (by omega) (redTo_lt p hp n (by omega))
theorem bit_yes {x k : Nat} (h : (((x : Int) / 2 ^ k).tmod 2 == 1) = true) : x.testBit k = true := by
  rw [Nat.testBit_eq_decide_div_mod_eq]
  have e : ((x : Int) / 2 ^ k) = ((x / 2 ^ k : Nat) : Int) := by simp
  rw [e] at h
  generalize x / 2 ^ k = d at h ⊢
  have h2 : (d : Int).tmod 2 = ((d % 2 : Nat) : Int) := by rw [Int.tmod_eq_emod_of_nonneg (Int.natCast_nonneg _)]; omega
  rw [h2] at h
  simp at h
  simp
  omega
theorem bit_no {x k : Nat} (h : (((x : Int) / 2 ^ k).tmod 2 == 1) = false) : x.testBit k = false := by
  rw [Nat.testBit_eq_decide_div_mod_eq]
  have e : ((x : Int) / 2 ^ k) = ((x / 2 ^ k : Nat) : Int) := by simp
  rw [e] at h
  generalize x / 2 ^ k = d at h ⊢
  have h2 : (d : Int).tmod 2 = ((d % 2 : Nat) : Int) := by rw [Int.tmod_eq_emod_of_nonneg (Int.natCast_nonneg _)]; omega
  rw [h2] at h
  simp at h
  simp
  omega

set_option maxRecDepth 100000 in
set_option maxHeartbeats 1000000 in
theorem rmul_says (a b : UInt8) (w : World) : Calls Try.prog 40 #[.int .u8 (a.toNat : Int), .int .u8 (b.toNat : Int)] w fun e w' => e = .returned (.int .u8 ((Gf.mul a b).toNat : Int)) ∧ w' = w := by
  rw [Gf.mul_toNat]
  have ha : a.toNat < 256 := a.toNat_lt
  have hb : b.toNat < 256 := b.toNat_lt
  generalize a.toNat = x at ha ⊢
  generalize b.toNat = y at hb ⊢
  have HG := Lib.hid (Gf.gm_lt x y ha hb)
  go_enter Try.func40, Try.ntmps40
  go_wp2_with fail
  go_loopw [5, 6] (fun p i wr => ∃ k : Nat, k ≤ 8 ∧ i = .int .i64 (k : Int) ∧ p = .int .i64 (clTo x y k : Int) ∧ Hid (wr = w)) (fun _ i _ => 8 - (intOf i).toNat)
  case atStart => exact ⟨0, by omega, rfl, rfl, Lib.hid rfl⟩
  case round =>
    obtain ⟨k, hk, rfl, rfl, hw⟩ := hrel
    have hw' : w = wr := hw.out.symm
    subst hw'
    clear hw
    by_cases hlt : k < 8
    · have l1 : (k : Int) < 8 := by omega
      have hc := clTo_lt x y ha k hk
      have hsh : wrap64 ((x : Int) * 2 ^ k) = ((x <<< k : Nat) : Int) := by
        rw [Nat.shiftLeft_eq]
        have h1 : 2 ^ k ≤ 2 ^ 7 := Nat.pow_le_pow_right (by omega) (by omega)
        have h2 : x * 2 ^ k ≤ 255 * 2 ^ 7 := Nat.mul_le_mul (by omega) h1
        have h3 : ((x : Int) * 2 ^ k) = ((x * 2 ^ k : Nat) : Int) := by simp
        rw [h3]
        generalize x * 2 ^ k = d at h2 ⊢
        exact IntWalk.wrap64_in (d : Int) (by omega)
      have HX := Lib.hid (show x <<< k < 4611686018427387904 from by
        rw [Nat.shiftLeft_eq]
        have h1 : 2 ^ k ≤ 2 ^ 7 := Nat.pow_le_pow_right (by omega) (by omega)
        have h2 : x * 2 ^ k ≤ 255 * 2 ^ 7 := Nat.mul_le_mul (by omega) h1
        omega)
      have HS := Lib.hid hsh
      have HC := Lib.hid hc
      clear hsh hc
      rcases Bool.eq_false_or_eq_true (((y : Int) / 2 ^ k).tmod 2 == 1) with hbit | hbit
      · have HP := Lib.hid (show Gf.part x y k = x <<< k from by rw [Gf.part, bit_yes hbit]; rfl)
        go_wp2_with fail
        go_roundw
        case rel =>
          refine ⟨k + 1, by omega, by go_num, ?_, Lib.hid trivial⟩
          rw [HS.out, bits_x64 _ _ (by have := HC.out; omega) HX.out, clTo, HP.out]
        case measure => simp [intOf]; omega
      · have HP := Lib.hid (show Gf.part x y k = 0 from by rw [Gf.part, bit_no hbit]; rfl)
        go_wp2_with fail
        go_roundw
        case rel => exact ⟨k + 1, by omega, by go_num, by rw [clTo, HP.out, Nat.xor_zero], Lib.hid trivial⟩
        case measure => simp [intOf]; omega
    · obtain rfl : k = 8 := by omega
      have l1 : ¬ ((8 : Nat) : Int) < 8 := by omega
      have hcl := clTo_lt x y ha 8 (by omega)
      rw [clTo_all] at hcl ⊢
      obtain ⟨p, hp⟩ : ∃ p, Gf.cl x y = p := ⟨_, rfl⟩
      have HGM := Lib.hid (show Gf.gm x y = redTo p 7 from by rw [redTo_all, ← hp]; rfl)
      rw [hp] at hcl ⊢
      clear hp
      go_wp2_with fail
      go_loopw [5, 7] (fun q i wr => ∃ n : Nat, n ≤ 7 ∧ i = .int .i64 ((14 - n : Nat) : Int) ∧ q = .int .i64 (redTo p n : Int) ∧ Hid (wr = w)) (fun _ i _ => (intOf i).toNat)
      case atStart => exact ⟨0, by omega, rfl, rfl, Lib.hid rfl⟩
      case round =>
        obtain ⟨n, hn, rfl, rfl, hw⟩ := hrel
        have hw' : w = wr := hw.out.symm
        subst hw'
        clear hw
        by_cases hn2 : n < 7
        · obtain ⟨j, hj⟩ : ∃ j, 14 - n = j := ⟨_, rfl⟩
          have l2 : (8 : Int) ≤ (j : Int) := by omega
          have hj14 : j ≤ 14 := by omega
          have hr := redTo_lt p hcl n (by omega)
          have hst : redTo p (n + 1) = Gf.step j (redTo p n) := by rw [← hj]; rfl
          obtain ⟨q, hq⟩ : ∃ q, redTo p n = q := ⟨_, rfl⟩
          rw [hq] at hr hst ⊢
          rw [hj]
          have hw8 : IntKind.i64.wrap ((j : Int) - 8) = ((j - 8 : Nat) : Int) := by rw [IntWalk.i64_in _ (by omega)]; omega
          have hw1 : IntKind.i64.wrap ((j : Int) - 1) = ((j - 1 : Nat) : Int) := by rw [IntWalk.i64_in _ (by omega)]; omega
          obtain ⟨j8, hj8⟩ : ∃ t, j - 8 = t := ⟨_, rfl⟩
          rw [hj8] at hw8
          have hle : j8 ≤ 6 := by omega
          have hsh : wrap64 (285 * 2 ^ j8) = ((285 <<< j8 : Nat) : Int) := by
            rw [Nat.shiftLeft_eq]
            have h1 : 2 ^ j8 ≤ 2 ^ 6 := Nat.pow_le_pow_right (by omega) hle
            have h2 : 285 * 2 ^ j8 ≤ 285 * 2 ^ 6 := Nat.mul_le_mul (by omega) h1
            have h3 : ((285 : Int) * 2 ^ j8) = ((285 * 2 ^ j8 : Nat) : Int) := by simp
            rw [h3]
            generalize 285 * 2 ^ j8 = d at h2 ⊢
            exact IntWalk.wrap64_in (d : Int) (by omega)
          have HX := Lib.hid (show 285 <<< j8 < 4611686018427387904 from by
            rw [Nat.shiftLeft_eq]
            have h1 : 2 ^ j8 ≤ 2 ^ 6 := Nat.pow_le_pow_right (by omega) hle
            omega)
          have HSH := Lib.hid hsh
          have HST := Lib.hid hst
          have HR := Lib.hid hr
          have HJ := Lib.hid hj8
          have HQ := Lib.hid hq
          have HJN := Lib.hid hj
          clear hsh hst hr hj8 hq hj
          rcases Bool.eq_false_or_eq_true (((q : Int) / 2 ^ j).tmod 2 == 1) with hbit | hbit
          · have HP := Lib.hid (show Gf.step j q = q ^^^ (285 <<< j8) from by rw [Gf.step, bit_yes hbit, HJ.out]; rfl)
            go_wp2_with fail
            go_roundw
            case rel =>
              refine ⟨n + 1, by omega, ?_, ?_, Lib.hid trivial⟩
              · have := HJN.out
                rw [show 14 - (n + 1) = j - 1 by omega]
              · rw [HSH.out, bits_x64 _ _ (by have := HR.out; omega) HX.out, HST.out, HP.out]
            case measure => simp [intOf]; omega
          · have HP := Lib.hid (show Gf.step j q = q from by rw [Gf.step, bit_no hbit]; rfl)
            go_wp2_with fail
            go_roundw
            case rel =>
              refine ⟨n + 1, by omega, ?_, by rw [HST.out, HP.out], Lib.hid trivial⟩
              have := HJN.out
              rw [show 14 - (n + 1) = j - 1 by omega]
            case measure => simp [intOf]; omega
        · obtain rfl : n = 7 := by omega
          have hg := HG.out
          rw [HGM.out] at hg
          obtain ⟨q, hq⟩ : ∃ q, redTo p 7 = q := ⟨_, rfl⟩
          rw [hq] at hg ⊢
          have HQ := Lib.hid (HGM.out.trans hq)
          have hwr : IntKind.u8.wrap (q : Int) = (q : Int) := by rw [IntKind.wrap_u8']; omega
          clear hq
          go_wp2
          go_ret
          refine ⟨?_, rfl⟩
          rw [HQ.out]
          first | rfl | (simp [hwr]; done) | (congr 2; omega)
end Go.Proofs.Ytpbkabgjpieggaa


namespace Go.Proofs.Ytpbkabgjpieggaa
open Go.RowKit

theorem inv_from (a : Nat) : ∀ (k b : Nat), (∀ c, b ≤ c → c < b + k → Gf.gm a c ≠ 1) → ∀ j, Gf.invFrom a (k + j) b = Gf.invFrom a j (b + k)
  | 0, b, _, j => by rw [Nat.zero_add, Nat.add_zero]
  | k + 1, b, h, j => by
    rw [show k + 1 + j = (k + j) + 1 by omega, Gf.invFrom, if_neg (h b (Nat.le_refl _) (by omega)), inv_from a k (b + 1) (fun c h1 h2 => h c (by omega) (by omega)) j, show b + 1 + k = b + (k + 1) by omega]
theorem inv_at (a k : Nat) (hk : k < 255) (h : ∀ c, 1 ≤ c → c < 1 + k → Gf.gm a c ≠ 1) (he : Gf.gm a (1 + k) = 1) : Gf.ginv a = 1 + k := by
  have h1 := inv_from a k 1 h (255 - k)
  rw [show k + (255 - k) = 255 by omega] at h1
  rw [Gf.ginv, h1, show 255 - k = (254 - k) + 1 by omega, Gf.invFrom, if_pos he]
theorem inv_none (a : Nat) (h : ∀ c, 1 ≤ c → c < 1 + 255 → Gf.gm a c ≠ 1) : Gf.ginv a = 0 := by
  have h1 := inv_from a 255 1 h 0
  rw [Gf.ginv, h1]
  rfl

set_option maxRecDepth 100000 in
set_option maxHeartbeats 1000000 in
theorem rinv_says (a : UInt8) (w : World) : Calls Try.prog 41 #[.int .u8 (a.toNat : Int)] w fun e w' => e = .returned (.int .u8 ((Gf.inv a).toNat : Int)) ∧ w' = w := by
  go_enter Try.func41, Try.ntmps41
  go_wp2_with fail
  go_loopw [3] (fun i wr => ∃ k : Nat, k ≤ 255 ∧ i = .int .i64 ((1 + k : Nat) : Int) ∧ Hid (wr = w ∧ ∀ c, 1 ≤ c → c < 1 + k → Gf.gm a.toNat c ≠ 1)) (fun i _ => 256 - (intOf i).toNat)
  case atStart => exact ⟨0, by omega, rfl, Lib.hid ⟨rfl, fun c h1 h2 => by omega⟩⟩
  case round =>
    obtain ⟨k, hk, rfl, H⟩ := hrel
    have hw' : w = wr := H.out.1.symm
    subst hw'
    obtain ⟨j, hj⟩ : ∃ j, 1 + k = j := ⟨_, rfl⟩
    rw [hj] at H ⊢
    by_cases hlt : k < 255
    · have l1 : (j : Int) < 256 := by omega
      have hj256 : j < 256 := by omega
      have hu : (UInt8.ofNat j).toNat = j := Gf.ofNat_toNat' j hj256
      have hm := rmul_says a (UInt8.ofNat j) w
      rw [hu, Gf.mul_toNat, hu] at hm
      have hg := Gf.gm_lt a.toNat j (Gf.lt256 a) hj256
      have hwj : IntKind.u8.wrap (j : Int) = (j : Int) := by rw [IntKind.wrap_u8']; omega
      have hmod : (j : Int) % 256 = (j : Int) := by omega
      obtain ⟨p, hp⟩ : ∃ p, Gf.gm a.toNat j = p := ⟨_, rfl⟩
      rw [hp] at hm hg
      by_cases hp1 : p = 1
      · subst hp1
        have HRES := Lib.hid (show (Gf.inv a).toNat = j from by rw [Gf.inv_toNat, ← hj]; exact inv_at a.toNat k hlt (fun c h1 h2 => H.out.2 c h1 (by omega)) (by rw [hj]; exact hp))
        clear hp
        go_wp2_with (go_at_call 40; refine hm.mono ?_; rintro e w1 ⟨rfl, rfl⟩)
        go_ret
        refine ⟨?_, rfl⟩
        rw [HRES.out]
        first | rfl | (simp [hmod]; done)
      · have hp1' : ¬ (p : Int) = 1 := by omega
        have HP := Lib.hid hp
        clear hp
        go_wp2_with (go_at_call 40; refine hm.mono ?_; rintro e w1 ⟨rfl, rfl⟩)
        go_roundw
        case rel =>
          refine ⟨k + 1, by omega, by rw [← hj]; go_num, Lib.hid ⟨trivial, fun c h1 h2 => ?_⟩⟩
          rcases Nat.lt_or_ge c j with h3 | h3
          · exact H.out.2 c h1 h3
          · rw [show c = j by omega, HP.out]
            exact hp1
        case measure => simp [intOf]; omega
    · have l1 : ¬ (j : Int) < 256 := by omega
      have HRES := Lib.hid (show (Gf.inv a).toNat = 0 from by rw [Gf.inv_toNat]; exact inv_none a.toNat (fun c h1 h2 => H.out.2 c h1 (by omega)))
      go_wp2
      go_ret
      refine ⟨?_, rfl⟩
      rw [HRES.out]
      rfl

end Go.Proofs.Ytpbkabgjpieggaa


namespace Go.Proofs.Ytpbkabgjpieggaa
open Go.RowKit

/-- A row that may be, beside a first one of so many numbers. -/
def rowOk (m : Nat) (r : List UInt8) : Prop := r.length = m ∧ 1 ≤ r.length ∧ r.length ≤ 255
/-- A matrix that is right. -/
def RightM (M : List (List UInt8)) : Prop := 1 ≤ M.length ∧ M.length ≤ 255 ∧ ∀ r ∈ M, rowOk (M.headD []).length r
instance (M : List (List UInt8)) : Decidable (RightM M) := by unfold RightM rowOk; exact inferInstance

theorem grows_cell {w : World} {p : Addr} {v : Value} (h : w.cell? p = some v) (hb : p.block < w.heap.size) (q : Grows w) : q.val.cell? p = some v := (q.prop.cell hb).trans h

end Go.Proofs.Ytpbkabgjpieggaa


namespace Go.Proofs.Ytpbkabgjpieggaa
open Go.RowKit

theorem str_ne {l m : List UInt8} (h : l ≠ m) : ((⟨l.toArray⟩ : ByteArray).toList == (⟨m.toArray⟩ : ByteArray).toList) = false := by simpa [ByteArray.toList_eq] using h

set_option maxRecDepth 100000 in
set_option maxHeartbeats 2000000 in
theorem rsameM_says (w : World) (A : Option Addr) (n c : Nat) (M : List (List UInt8)) (hM : Mtx w A n c M) (B : Option Addr) (m d : Nat) (N : List (List UInt8)) (hN : Mtx w B m d N) (hn : n ≤ 100000) :
    Calls Try.prog 14 #[.slice A n c, .slice B m d] w fun e w' => e = .returned (.bool (decide (M = N))) ∧ Below w.heap.size w w' := by
  have hl1 := hM.len
  have hl2 := hN.len
  have HM := Lib.hid hM
  have HN := Lib.hid hN
  clear hM hN
  by_cases hnm : n = m
  · subst hnm
    go_enter Try.func14, Try.ntmps14
    go_wp2_with fail
    go_loopw [5] (fun i wr => ∃ k : Nat, k ≤ n ∧ i = .int .i64 (k : Int) ∧ Hid (M.take k = N.take k ∧ Below w.heap.size w wr)) (fun i _ => n - (intOf i).toNat)
    case atStart => exact ⟨0, by omega, rfl, Lib.hid ⟨by simp, Below.refl _ _⟩⟩
    case round =>
      obtain ⟨k, hk, rfl, H⟩ := hrel
      by_cases hlt : k < n
      · have l1 : (k : Int) < (n : Int) := by omega
        obtain ⟨r, hr⟩ : ∃ r, M[k]? = some r := ⟨_, List.getElem?_eq_getElem (by omega)⟩
        obtain ⟨s, hs⟩ : ∃ s, N[k]? = some s := ⟨_, List.getElem?_eq_getElem (by omega)⟩
        obtain ⟨b, off, Ak, ck, hA, hb, hck, hlk⟩ := HM.out.row hr
        obtain ⟨b', off', Bk, dk, hB, hb', hdk, hmk⟩ := HN.out.row hs
        subst hA hB
        have hc1 := grows_cell ((H.out.2.cell (p := ⟨b, off + k, none⟩) hb).trans hck) (Nat.lt_of_lt_of_le hb H.out.2.size)
        have hc2 := grows_cell ((H.out.2.cell (p := ⟨b', off' + k, none⟩) hb').trans hdk) (Nat.lt_of_lt_of_le hb' H.out.2.size)
        have hv1 : ∀ q : Grows wr, (convert 31 9 (.slice Ak r.length ck)).run Try.prog q.val = .ok (.string ⟨r.toArray⟩) q.val := fun q => conv_lies ((hlk.below H.out.2).below q.prop)
        have hv2 : ∀ q : Grows wr, (convert 31 9 (.slice Bk s.length dk)).run Try.prog q.val = .ok (.string ⟨s.toArray⟩) q.val := fun q => conv_lies ((hmk.below H.out.2).below q.prop)
        have HRS := Lib.hid (And.intro hr hs)
        clear hck hdk hlk hmk hr hs
        by_cases e1 : r = s
        · subst e1
          generalize (⟨r.toArray⟩ : ByteArray) = S at hv1 hv2
          generalize r.length = lr at hc1 hc2 hv1 hv2
          have hss : (S.toList == S.toList) = true := by simp
          go_wp2_with fail
          refine wp_region_grows (by kernel_rfl) (by kernel_rfl) ?_
          repeat (first
            | (with_reducible refine wpQuiet_no ?_ ?_; (· first | (go_simp; done) | (go_simp; simp [undef]; done)); simp only [Act.put, List.setIfInBounds_toArray, List.set_cons_zero, List.set_cons_succ])
            | quiet_step (fail))
          refine wpQuiet_nil ?_
          rintro w2 ⟨⟨_, hw2⟩, rfl⟩
          have HW := Lib.hid (H.out.2.trans (hw2.mono H.out.2.size))
          clear hw2 hc1 hc2 hv1 hv2
          go_wp2
          go_roundw
          case rel =>
            refine ⟨k + 1, by omega, by go_num, Lib.hid ⟨?_, HW.out⟩⟩
            rw [List.take_add_one, List.take_add_one, H.out.1, HRS.out.1, HRS.out.2]
          case measure => simp [intOf]; omega
        · have hne := str_ne e1
          have HRES := Lib.hid (show decide (M = N) = false from decide_eq_false (fun e => by
            have h5 := HRS.out
            rw [e, h5.2] at h5
            exact e1 (Option.some.inj h5.1).symm))
          clear e1
          generalize (⟨r.toArray⟩ : ByteArray) = S at hv1 hne
          generalize (⟨s.toArray⟩ : ByteArray) = T at hv2 hne
          generalize r.length = lr at hc1 hv1
          generalize s.length = ls at hc2 hv2
          go_wp2_with fail
          refine wp_region_grows (by kernel_rfl) (by kernel_rfl) ?_
          repeat (first
            | (with_reducible refine wpQuiet_no ?_ ?_; (· first | (go_simp; done) | (go_simp; simp [undef]; done)); simp only [Act.put, List.setIfInBounds_toArray, List.set_cons_zero, List.set_cons_succ])
            | quiet_step (fail))
          refine wpQuiet_nil ?_
          rintro w2 ⟨⟨_, hw2⟩, rfl⟩
          have HW := Lib.hid (H.out.2.trans (hw2.mono H.out.2.size))
          clear hw2 hc1 hc2 hv1 hv2
          go_wp2
          go_ret
          refine ⟨?_, HW.out⟩
          rw [HRES.out]
          rfl
      · obtain rfl : k = n := by omega
        have l1 : ¬ (k : Int) < (k : Int) := by omega
        have HRES := Lib.hid (show decide (M = N) = true from decide_eq_true (by
          have := H.out.1
          rwa [List.take_of_length_le (by omega), List.take_of_length_le (by omega)] at this))
        go_wp2
        go_ret
        refine ⟨?_, H.out.2⟩
        rw [HRES.out]
        rfl
  · have h1 : ¬ (n : Int) = (m : Int) := by omega
    have HRES := Lib.hid (show decide (M = N) = false from decide_eq_false (fun e => by rw [e] at hl1; omega))
    go_enter Try.func14, Try.ntmps14
    go_wp2
    go_ret
    refine ⟨?_, Below.refl _ _⟩
    rw [HRES.out]
    rfl
end Go.Proofs.Ytpbkabgjpieggaa


namespace Go.Proofs.Ytpbkabgjpieggaa
open Go.RowKit

/-- A byte of a list, in a later world. -/
theorem lies_byte {w w' : World} {A : Option Addr} {n c k : Nat} {l : List UInt8} (h : Lies w (fun _ => True) A n c (bc l)) (hb : Below w.heap.size w w') (hk : k < n) : ∃ b off, A = some ⟨b, off, none⟩ ∧ b < w.heap.size ∧ w'.cell? ⟨b, off + k, none⟩ = some (.int .u8 ((l.getD k 0).toNat : Int)) := by
  have hl : l.length = n := by rw [← bc_length]; exact h.len
  obtain ⟨b, off, h1, _, h3, h4⟩ := h.at (j := k) (u := .int .u8 ((l.getD k 0).toNat : Int)) (by simp [bc, List.getD_eq_getElem?_getD, List.getElem?_eq_getElem (show k < l.length by omega)])
  exact ⟨b, off, h1, h3, (hb.cell (p := ⟨b, off + k, none⟩) h3).trans h4⟩
/-- One place of a product. -/
def placeL (N : List (List UInt8)) (r : List UInt8) (j k : Nat) : UInt8 := Gf.sum k (fun t => Gf.mul (r.getD t 0) ((N.getD t []).getD j 0))
/-- One row of a product. -/
def rowL (N : List (List UInt8)) (r : List UInt8) (q : Nat) : List UInt8 := (List.range q).map (fun j => placeL N r j N.length)
/-- The product. -/
def mulL (M N : List (List UInt8)) : List (List UInt8) := M.map (fun r => rowL N r (N.headD []).length)
theorem rowL_succ (N : List (List UInt8)) (r : List UInt8) (q : Nat) : rowL N r (q + 1) = rowL N r q ++ [placeL N r q N.length] := by simp [rowL, List.range_succ]

set_option maxRecDepth 100000 in
set_option maxHeartbeats 4000000 in
theorem rmulM_says (w : World) (A : Option Addr) (n c : Nat) (M : List (List UInt8)) (hM : Mtx w A n c M) (B : Option Addr) (m d : Nat) (N : List (List UInt8)) (hN : Mtx w B m d N) (hn : n ≤ 300) (hm : 1 ≤ m ∧ m ≤ 300) (q : Nat) (hq : q ≤ 300) (hfit : ∀ r ∈ M, r.length = m) (hrow : ∀ r ∈ N, r.length = q) :
    Calls Try.prog 27 #[.slice A n c, .slice B m d] w fun e w' => ∃ v, e = .returned v ∧ Bld w' w.heap.size v (mulL M N) ∧ Below w.heap.size w w' := by
  have hl1 := hM.len
  have hl2 := hN.len
  obtain ⟨r0, hr0⟩ : ∃ r, N[0]? = some r := ⟨_, List.getElem?_eq_getElem (by omega)⟩
  have hhd : N.headD [] = r0 := by
    cases N with
    | nil => simp at hr0
    | cons a t => simpa using hr0
  have hq0 : r0.length = q := hrow r0 (List.mem_of_getElem? hr0)
  have HMU := Lib.hid (show mulL M N = M.map (fun r => rowL N r q) from by rw [mulL, hhd, hq0])
  obtain ⟨b, off, B0, d0, hB, hb, hc0, _⟩ := hN.row hr0
  subst hB
  rw [hq0, Nat.add_zero] at hc0
  have HM := Lib.hid hM
  have HN := Lib.hid hN
  have HFIT := Lib.hid hfit
  have HROW := Lib.hid hrow
  have hp0 : 0 < m := by omega
  have hp0' : (0 : Int) < (m : Int) := by omega
  clear hM hN hfit hrow hhd hr0
  go_enter Try.func27, Try.ntmps27
  go_wp2_with fail
  go_loopw [5, 6] (fun o i wr => ∃ k : Nat, k ≤ n ∧ i = .int .i64 (k : Int) ∧ Hid (Bld wr w.heap.size o ((M.take k).map (fun r => rowL N r q)) ∧ Below w.heap.size w wr)) (fun _ i _ => n - (intOf i).toNat)
  case atStart => exact ⟨0, by omega, rfl, Lib.hid ⟨by simpa using Bld.nil _ _, Below.refl _ _⟩⟩
  case round =>
    obtain ⟨i, hi, rfl, H⟩ := hrel
    obtain ⟨ws, hws⟩ : ∃ x, x = wr := ⟨_, rfl⟩
    subst hws
    by_cases hlt : i < n
    · have l1 : (i : Int) < (n : Int) := by omega
      obtain ⟨r, hr⟩ : ∃ r, M[i]? = some r := ⟨_, List.getElem?_eq_getElem (by omega)⟩
      obtain ⟨ba, oa, Ai, ci, hA, hba, hci, hli⟩ := HM.out.row hr
      subst hA
      have hrl : r.length = m := HFIT.out r (List.mem_of_getElem? hr)
      rw [hrl] at hci hli
      have HTK := Lib.hid (show (M.take (i + 1)).map (fun r => rowL N r q) = (M.take i).map (fun r => rowL N r q) ++ [rowL N r q] from by rw [List.take_add_one, hr]; simp)
      have HLI := Lib.hid hli
      have HCI := Lib.hid (And.intro hba hci)
      clear hr hli hba hci
      go_wp2_with fail
      go_loopw [7, 8] (fun o j wj => ∃ t : Nat, t ≤ q ∧ j = .int .i64 (t : Int) ∧ Hid (Own wj ws.heap.size o (rowL N r t) ∧ Below ws.heap.size ws wj ∧ Below w.heap.size w wj)) (fun _ j _ => q - (intOf j).toNat)
      case atStart => exact ⟨0, by omega, rfl, Lib.hid ⟨Own.nil _ _, Below.refl _ _, H.out.2⟩⟩
      case round =>
        obtain ⟨t, ht, rfl, H2⟩ := hrel
        have hcb : wr.cell? ⟨b, off, none⟩ = some (.slice B0 q d0) := (H2.out.2.2.cell (p := ⟨b, off, none⟩) hb).trans hc0
        by_cases hlt2 : t < q
        · have l2 : (t : Int) < (q : Int) := by omega
          go_wp2_with fail
          clear hcb
          go_loopw [9, 10] (fun s z wk => ∃ (k : Nat) (y : UInt8), k ≤ m ∧ z = .int .i64 (k : Int) ∧ s = .int .u8 (y.toNat : Int) ∧ Hid (y = placeL N r t k ∧ Own wk ws.heap.size u7 (rowL N r t) ∧ Below ws.heap.size ws wk ∧ Below w.heap.size w wk)) (fun _ z _ => m - (intOf z).toNat)
          case atStart => exact ⟨0, 0, by omega, rfl, rfl, Lib.hid ⟨rfl, H2.out.1, H2.out.2.1, H2.out.2.2⟩⟩
          case round =>
            obtain ⟨k, y, hk, rfl, rfl, H3⟩ := hrel
            by_cases hlt3 : k < m
            · have l3 : (k : Int) < (m : Int) := by omega
              obtain ⟨s, hs⟩ : ∃ s, N[k]? = some s := ⟨_, List.getElem?_eq_getElem (by omega)⟩
              obtain ⟨b', off', Bk, dk, hB, hb', hdk, hlk⟩ := HN.out.row hs
              obtain ⟨rfl, rfl⟩ : b = b' ∧ off = off' := by
                injection hB with hB
                injection hB with h1 h2
                exact ⟨h1, h2⟩
              have hsl : s.length = q := HROW.out s (List.mem_of_getElem? hs)
              rw [hsl] at hdk hlk
              have hbw := H3.out.2.2.2
              obtain ⟨bi, oi, hAi, hbi, hcx⟩ := lies_byte HLI.out hbw hlt3
              obtain ⟨bk, ok, hBk, hbk, hcy⟩ := lies_byte hlk hbw hlt2
              subst hAi hBk
              obtain ⟨u, hu⟩ : ∃ u, r.getD k 0 = u := ⟨_, rfl⟩
              obtain ⟨v, hv⟩ : ∃ v, s.getD t 0 = v := ⟨_, rfl⟩
              rw [hu] at hcx
              rw [hv] at hcy
              have HST := Lib.hid (show placeL N r t (k + 1) = y ^^^ Gf.mul u v from by rw [placeL, Gf.sum_succ, H3.out.1, hu, List.getD_eq_getElem?_getD (l := N), hs]; show _ ^^^ Gf.mul u (s.getD t 0) = _; rw [hv]; rfl)
              have lt : ∀ {p : Nat}, p < w.heap.size → p < wr.heap.size := fun hp => Nat.lt_of_lt_of_le hp hbw.size
              have g1 := grows_cell ((hbw.cell (p := ⟨ba, oa + i, none⟩) HCI.out.1).trans HCI.out.2) (lt HCI.out.1)
              have g2 := grows_cell ((hbw.cell (p := ⟨b, off + k, none⟩) hb).trans hdk) (lt hb)
              have g3 := grows_cell hcx (lt hbi)
              have g4 := grows_cell hcy (lt hbk)
              have hx8 := bits_x8 y (Gf.mul u v)
              have hmu : ∀ p : Grows wr, Calls Try.prog 40 #[.int .u8 (u.toNat : Int), .int .u8 (v.toNat : Int)] p.val fun e w'' => e = .returned (.int .u8 ((Gf.mul u v).toNat : Int)) ∧ ∃ p' : Grows wr, w'' = p'.val := fun p => (rmul_says u v p.val).mono fun _ _ hh => ⟨hh.1, p, hh.2⟩
              obtain ⟨uv, huv⟩ : ∃ z, Gf.mul u v = z := ⟨_, rfl⟩
              rw [huv] at hmu hx8 HST
              clear hcx hcy hdk hlk hs hu hv huv lt hbw
              go_wp2_with fail
              refine wp_region_grows (by kernel_rfl) (by kernel_rfl) ?_
              repeat (first
                | quiet_step ((go_at_call 40; exact hmu _)))
              refine wpQuiet_nil ?_
              rintro w2 ⟨⟨_, hw2⟩, rfl⟩
              have HW := Lib.hid (And.intro (H3.out.2.1.below hw2) (And.intro (H3.out.2.2.1.trans (hw2.mono H3.out.2.2.1.size)) (H3.out.2.2.2.trans (hw2.mono H3.out.2.2.2.size))))
              clear hw2 g1 g2 g3 g4 hmu
              go_wp2
              go_roundw
              case rel => exact ⟨k + 1, y ^^^ uv, by omega, by go_num, rfl, Lib.hid ⟨HST.out.symm, HW.out⟩⟩
              case measure => simp [intOf]; omega
            · obtain rfl : k = m := by omega
              have l3 : ¬ (k : Int) < (k : Int) := by omega
              have HRS := Lib.hid (show rowL N r (t + 1) = rowL N r t ++ [y] from by rw [rowL_succ, hl2, H3.out.1])
              have hln : (rowL N r t).length = t := by simp [rowL]
              have HO := Lib.hid (H3.out.2.1.below ((Below.refl _ wr).alloc (Nat.le_refl _) (.cells #[.int .u8 (y.toNat : Int)] 5)))
              have HBL := Lib.hid (H3.out.2.2.1.alloc H3.out.2.2.1.size (.cells #[.int .u8 (y.toNat : Int)] 5))
              have HBW := Lib.hid (H3.out.2.2.2.alloc H3.out.2.2.2.size (.cells #[.int .u8 (y.toNat : Int)] 5))
              have HLN := Lib.hid hln
              clear hln
              go_wp2_with (at_builtin; refine wpList_bytes _ _ _ rfl rfl ws.heap.size u7 (rowL N r t) (some ⟨wr.heap.size, 0, none⟩) 1 1 [y] rfl rfl HO.out (lies_one wr y) (by intro h; cases h) (by have := HLN.out; simp; omega) HBL.out.size ?_; intro v9 w9 ho9 hg9)
              have HO9 := Lib.hid ho9
              have HB9 := Lib.hid (show Below ws.heap.size ws w9 ∧ Below w.heap.size w w9 from ⟨HBL.out.trans (HO.out.changed hg9 HBL.out.size), HBW.out.trans ((HO.out.changed hg9 HBL.out.size).mono H.out.2.size)⟩)
              clear ho9 hg9
              go_wp2
              go_roundw
              case rel => exact ⟨t + 1, by omega, by go_num, Lib.hid ⟨by rw [HRS.out]; exact HO9.out, HB9.out⟩⟩
              case measure => simp [intOf]; omega
        · obtain rfl : t = q := by omega
          have l2 : ¬ (t : Int) < (t : Int) := by omega
          obtain ⟨A7, c7, hv7, hl7⟩ := H2.out.1.liesN
          have HL7 := Lib.hid hl7
          have HV7 := Lib.hid hv7
          obtain ⟨rl, hrl2⟩ : ∃ x, rowL N r t = x := ⟨_, rfl⟩
          rw [hrl2] at HL7 HV7 HTK
          have HLM := Lib.hid (show ((M.take i).map (fun r => rowL N r t)).length ≤ 100000 from by rw [List.length_map, List.length_take]; omega)
          clear hl7 hv7 hrl2
          rw [HV7.out]
          go_wp2_with (at_builtin; refine wpList_append_row wr _ _ rfl rfl w.heap.size u5 ((M.take i).map (fun r => rowL N r t)) A7 c7 rl rfl rfl (H.out.1.below H2.out.2.1) HL7.out HLM.out H2.out.2.2.size ?_; intro v9 w9 hb9 hg9)
          have HB9 := Lib.hid (And.intro hb9 (H2.out.2.2.trans hg9))
          clear hb9 hg9
          go_wp2
          go_roundw
          case rel => exact ⟨i + 1, by omega, by go_num, Lib.hid ⟨by rw [HTK.out]; exact HB9.out.1, HB9.out.2⟩⟩
          case measure => simp [intOf]; omega
    · obtain rfl : i = n := by omega
      have l1 : ¬ (i : Int) < (i : Int) := by omega
      go_wp2
      go_ret
      refine ⟨_, rfl, ?_, H.out.2⟩
      have := H.out.1
      rwa [List.take_of_length_le (by omega), ← HMU.out] at this
end Go.Proofs.Ytpbkabgjpieggaa


namespace Go.Proofs.Ytpbkabgjpieggaa
open Go.RowKit

/-- The matrix that changes nothing. -/
def oneRow (n i : Nat) : List UInt8 := (List.replicate n 0).set i 1
def oneL (n : Nat) : List (List UInt8) := (List.range n).map (oneRow n)
theorem oneRow_length (n i : Nat) : (oneRow n i).length = n := by simp [oneRow]
/-- Cauchy's. -/
def cauRow (cols i : Nat) (k : Nat) : List UInt8 := (List.range k).map (fun j => Gf.inv (UInt8.ofNat (i + cols) ^^^ UInt8.ofNat j))
def cauL (rows cols : Nat) : List (List UInt8) := (List.range rows).map (fun i => cauRow cols i cols)
theorem cauRow_succ (cols i k : Nat) : cauRow cols i (k + 1) = cauRow cols i k ++ [Gf.inv (UInt8.ofNat (i + cols) ^^^ UInt8.ofNat k)] := by simp [cauRow, List.range_succ]
theorem cauRow_length (cols i k : Nat) : (cauRow cols i k).length = k := by simp [cauRow]

set_option maxRecDepth 100000 in
set_option maxHeartbeats 2000000 in
theorem rcauchy_says (w : World) (rows cols : Nat) (hr : rows ≤ 255) (hc : cols ≤ 255) (hs : rows + cols ≤ 256) :
    Calls Try.prog 28 #[.int .i64 (rows : Int), .int .i64 (cols : Int)] w fun e w' => ∃ v, e = .returned v ∧ Bld w' w.heap.size v (cauL rows cols) ∧ Below w.heap.size w w' := by
  go_enter Try.func28, Try.ntmps28
  go_wp2_with fail
  go_loopw [5, 6] (fun o i wr => ∃ k : Nat, k ≤ rows ∧ i = .int .i64 (k : Int) ∧ Hid (Bld wr w.heap.size o ((List.range k).map (fun i => cauRow cols i cols)) ∧ Below w.heap.size w wr)) (fun _ i _ => rows - (intOf i).toNat)
  case atStart => exact ⟨0, by omega, rfl, Lib.hid ⟨by simpa using Bld.nil _ _, Below.refl _ _⟩⟩
  case round =>
    obtain ⟨i, hi, rfl, H⟩ := hrel
    obtain ⟨ws, hws⟩ : ∃ x, x = wr := ⟨_, rfl⟩
    subst hws
    by_cases hlt : i < rows
    · have l1 : (i : Int) < (rows : Int) := by omega
      go_wp2_with fail
      go_loopw [7, 8] (fun o j wj => ∃ t : Nat, t ≤ cols ∧ j = .int .i64 (t : Int) ∧ Hid (Own wj ws.heap.size o (cauRow cols i t) ∧ Below ws.heap.size ws wj ∧ Below w.heap.size w wj)) (fun _ j _ => cols - (intOf j).toNat)
      case atStart => exact ⟨0, by omega, rfl, Lib.hid ⟨Own.nil _ _, Below.refl _ _, H.out.2⟩⟩
      case round =>
        obtain ⟨t, ht, rfl, H2⟩ := hrel
        by_cases hlt2 : t < cols
        · have l2 : (t : Int) < (cols : Int) := by omega
          obtain ⟨x, hx⟩ : ∃ x, UInt8.ofNat (i + cols) = x := ⟨_, rfl⟩
          obtain ⟨y, hy⟩ : ∃ y, UInt8.ofNat t = y := ⟨_, rfl⟩
          have hxn : (x.toNat : Int) = (i : Int) + (cols : Int) := by rw [← hx, Gf.ofNat_toNat' _ (by omega)]; omega
          have hyn : (y.toNat : Int) = (t : Int) := by rw [← hy, Gf.ofNat_toNat' _ (by omega)]
          have hm1 : IntKind.u8.wrap ((i : Int) + (cols : Int)) = (x.toNat : Int) := by rw [IntKind.wrap_u8', hxn]; omega
          have hm2 : IntKind.u8.wrap (t : Int) = (y.toNat : Int) := by rw [IntKind.wrap_u8', hyn]; omega
          have hm3 : ((i : Int) + (cols : Int)) % 256 = (x.toNat : Int) := by rw [hxn]; omega
          have hm4 : (t : Int) % 256 = (y.toNat : Int) := by rw [hyn]; omega
          have hx8 := bits_x8 x y
          have hI := rinv_says (x ^^^ y) wr
          obtain ⟨z, hz⟩ : ∃ z, Gf.inv (x ^^^ y) = z := ⟨_, rfl⟩
          rw [hz] at hI
          have HRS := Lib.hid (show cauRow cols i (t + 1) = cauRow cols i t ++ [z] from by rw [cauRow_succ, hx, hy, hz])
          have HLN := Lib.hid (cauRow_length cols i t)
          have HO := Lib.hid (H2.out.1.below ((Below.refl _ wr).alloc (Nat.le_refl _) (.cells #[.int .u8 (z.toNat : Int)] 5)))
          have HBL := Lib.hid (H2.out.2.1.alloc H2.out.2.1.size (.cells #[.int .u8 (z.toNat : Int)] 5))
          have HBW := Lib.hid (H2.out.2.2.alloc H2.out.2.2.size (.cells #[.int .u8 (z.toNat : Int)] 5))
          have HXN := Lib.hid (And.intro hxn hyn)
          clear hx hy hz hxn hyn
          go_wp2_with (first
            | (go_at_call 41; refine hI.mono ?_; rintro e wn ⟨rfl, hwn⟩; obtain rfl : wr = wn := hwn.symm)
            | (at_builtin; refine wpList_bytes _ _ _ rfl rfl ws.heap.size u7 (cauRow cols i t) (some ⟨wr.heap.size, 0, none⟩) 1 1 [z] rfl rfl HO.out (lies_one wr z) (by intro h; cases h) (by have := HLN.out; simp; omega) HBL.out.size ?_; intro v9 w9 ho9 hg9))
          have HO9 := Lib.hid ho9
          have HB9 := Lib.hid (show Below ws.heap.size ws w9 ∧ Below w.heap.size w w9 from ⟨HBL.out.trans (HO.out.changed hg9 HBL.out.size), HBW.out.trans ((HO.out.changed hg9 HBL.out.size).mono H.out.2.size)⟩)
          clear ho9 hg9
          go_wp2
          go_roundw
          case rel => exact ⟨t + 1, by omega, by go_num, Lib.hid ⟨by rw [HRS.out]; exact HO9.out, HB9.out⟩⟩
          case measure => simp [intOf]; omega
        · obtain rfl : t = cols := by omega
          have l2 : ¬ (t : Int) < (t : Int) := by omega
          obtain ⟨A7, c7, hv7, hl7⟩ := H2.out.1.liesN
          have HL7 := Lib.hid hl7
          have HV7 := Lib.hid hv7
          obtain ⟨rl, hrl2⟩ : ∃ x, cauRow t i t = x := ⟨_, rfl⟩
          have HTK := Lib.hid (show (List.range (i + 1)).map (fun i => cauRow t i t) = (List.range i).map (fun i => cauRow t i t) ++ [rl] from by rw [List.range_succ, List.map_append, ← hrl2]; rfl)
          rw [hrl2] at HL7 HV7
          have HLM := Lib.hid (show ((List.range i).map (fun i => cauRow t i t)).length ≤ 100000 from by rw [List.length_map, List.length_range]; omega)
          clear hl7 hv7 hrl2
          rw [HV7.out]
          go_wp2_with (at_builtin; refine wpList_append_row wr _ _ rfl rfl w.heap.size u5 ((List.range i).map (fun i => cauRow t i t)) A7 c7 rl rfl rfl (H.out.1.below H2.out.2.1) HL7.out HLM.out H2.out.2.2.size ?_; intro v9 w9 hb9 hg9)
          have HB9 := Lib.hid (And.intro hb9 (H2.out.2.2.trans hg9))
          clear hb9 hg9
          go_wp2
          go_roundw
          case rel => exact ⟨i + 1, by omega, by go_num, Lib.hid ⟨by rw [HTK.out]; exact HB9.out.1, HB9.out.2⟩⟩
          case measure => simp [intOf]; omega
    · obtain rfl : i = rows := by omega
      have l1 : ¬ (i : Int) < (i : Int) := by omega
      go_wp2
      go_ret
      exact ⟨_, rfl, H.out.1, H.out.2⟩

theorem made_zero (n : Nat) : (madeCells (Value.int .u8 0).cells (n * 1)).toList = bc (List.replicate n 0) := by
  rw [show (Value.int .u8 0).cells = #[Value.int .u8 0] from rfl, Nat.mul_one, toList_madeCells_one]
  simp [bc]
theorem one_set (n i : Nat) : (bc (List.replicate n 0)).toArray.setIfInBounds i (.int .u8 1) = (bc (oneRow n i)).toArray := by
  rw [List.setIfInBounds_toArray]
  congr 1
  unfold bc oneRow
  rw [List.map_set]
  rfl
theorem own_boxB {w : World} {base g n : Nat} {xs : List Value} (h : w.ownsRow base 5 1 (.slice (some ⟨g, 0, none⟩) n n) n xs) : Box w g 5 xs.toArray := by
  obtain ⟨h1, h2 | ⟨g', cap, cur, h2, _, h3, _, _, h4, h5⟩⟩ := h
  · simp at h2
  · simp at h2
    obtain ⟨rfl, rfl⟩ := h2
    rw [List.take_of_length_le (by rw [Array.length_toList, h4]; exact Nat.le_refl _)] at h5
    subst h5
    simpa [Box] using h3
theorem box_liesN {w : World} {g : Nat} {l : List UInt8} (h : Box w g 5 (bc l).toArray) {n : Nat} (hn : l.length = n) : Lies w (Nb w) (some ⟨g, 0, none⟩) n n (bc l) :=
  ⟨by rw [bc_length]; exact hn, Nat.le_refl _, fun _ => ⟨⟨g, 0, none⟩, rfl, ⟨_, _, h⟩, Box.lt h, fun j u hu => by rw [Addr.add_mid, Nat.zero_add, Box.cell h]; simpa using hu⟩⟩

theorem append_rowN {ops : Array Oper} {rest : List Oper} {o : Oper} {a : Act} {Q : Exit → Act → World → Prop} (w : World) (s x : Operand) (hgd : o.guard = none)
    (hop : o.op = .call { callee := .builtin .append, args := #[s, x], argTypes := #[22, 22] })
    (base : Nat) (v : Value) (M : List (List UInt8)) (A : Option Addr) (n c : Nat) (l : List UInt8) (hn : l.length = n) (hs : a.eval s = v) (hx : a.eval x = .slice (some ⟨w.heap.size, 0, none⟩) 1 1) (hbl : Bld w base v M) (hl : Lies w (Nb w) A n c (bc l)) (hz : M.length ≤ 100000) (hb : base ≤ w.heap.size)
    (K : ∀ v' w', Bld w' base v' (M ++ [l]) → Below base w w' → wpList Try.prog ops Q rest (a.put o.dst v') w') : wpList Try.prog ops Q (o :: rest) a (w.alloc (.cells #[.slice A n c] 31)) := by
  subst hn
  exact wpList_append_row w s x hgd hop base v M A c l hs hx hbl hl hz hb K

end Go.Proofs.Ytpbkabgjpieggaa

