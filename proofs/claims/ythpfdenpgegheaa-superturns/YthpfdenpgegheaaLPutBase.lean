/-
  How lay writes numbers and texts, as plain lists of bytes; words for slices that are read.
-/
import Derived.Test.YthpfdenpgegheaaLSmall
import Derived.Lib.Bits
import Derived.Lib.BitFns
namespace Go.Proofs.Ythpfdenpgegheaa.Lay
open Go.RowKit

/-- Bytes as cells. -/
def bc (l : List UInt8) : List Value := l.map fun b => Value.int .u8 (b.toNat : Int)
theorem bc_append (l m : List UInt8) : bc (l ++ m) = bc l ++ bc m := by simp [bc]
theorem bc_length (l : List UInt8) : (bc l).length = l.length := by simp [bc]
theorem bc_one (l : List UInt8) : ∀ u ∈ bc l, u.oneCell' = true := by
  intro u hu
  simp only [bc, List.mem_map] at hu
  obtain ⟨b, _, rfl⟩ := hu
  rfl

/-- The m lowest bytes of x, the highest first. -/
def encTail : Nat → Nat → List UInt8
  | 0, _ => []
  | m + 1, x => UInt8.ofNat (x / 256 ^ m % 256) :: encTail m x
theorem encTail_length (m x : Nat) : (encTail m x).length = m := by
  induction m with
  | zero => rfl
  | succ m ih => simp [encTail, ih]
/-- How many bytes a number has. -/
def many (x : Nat) : Nat := (Lib.bitLen x + 7) / 8
def encNum (x : Nat) : List UInt8 := UInt8.ofNat (many x) :: encTail (many x) x
def encText (l : List UInt8) : List UInt8 := encNum l.length ++ l
theorem encNum_length (x : Nat) : (encNum x).length = 1 + many x := by simp [encNum, encTail_length, Nat.add_comm]


theorem many_zero : many 0 = 0 := by decide +kernel
theorem many_small (x : Nat) (h0 : 0 < x) (h : x < 256) : many x = 1 := by
  have h1 : ∀ n : Fin 256, 0 < n.val → many n.val = 1 := by decide +kernel
  exact h1 ⟨x, h⟩ h0
theorem many_step (x : Nat) (h : 256 ≤ x) (hx : x < 2 ^ 64) : many x = 1 + many (x / 256) := by
  unfold many
  rw [Lib.bitLen_shift 8 x h hx]
  show (8 + Lib.bitLen (x / 256) + 7) / 8 = _
  omega
theorem many_bounds : ∀ (k x : Nat), k ≤ 8 → x < 256 ^ k → many x ≤ k ∧ x < 256 ^ many x ∧ (0 < x → 0 < many x ∧ 256 ^ (many x - 1) ≤ x)
  | 0, x, _, h => by
    have : x = 0 := by simpa using h
    subst this
    rw [many_zero]
    simp
  | k + 1, x, hk, h => by
    rcases Nat.eq_zero_or_pos x with h0 | h0
    · subst h0
      rw [many_zero]
      simp
    · by_cases hs : x < 256
      · rw [many_small x h0 hs]
        exact ⟨by omega, by simpa using hs, fun _ => ⟨by omega, by simp; omega⟩⟩
      · have hx : x < 2 ^ 64 := by
          have : 256 ^ (k + 1) ≤ 256 ^ 8 := Nat.pow_le_pow_right (by omega) hk
          exact Nat.lt_of_lt_of_le h (by simpa using this)
        have hd : x / 256 < 256 ^ k := by
          rw [Nat.div_lt_iff_lt_mul (by omega)]
          rw [Nat.pow_succ] at h
          exact h
        obtain ⟨a, b, c⟩ := many_bounds k (x / 256) (by omega) hd
        obtain ⟨c1, c2⟩ := c (Nat.div_pos (by omega) (by omega))
        rw [many_step x (by omega) hx]
        refine ⟨by omega, ?_, fun _ => ⟨by omega, ?_⟩⟩
        · rw [Nat.div_lt_iff_lt_mul (by omega)] at b
          rw [Nat.add_comm, Nat.pow_succ]
          exact b
        · rw [Nat.le_div_iff_mul_le (by omega)] at c2
          have e : 1 + many (x / 256) - 1 = (many (x / 256) - 1) + 1 := by omega
          rw [e, Nat.pow_succ]
          exact c2
theorem many_le (x : Nat) (h : x < 18446744073709551616) : many x ≤ 8 := (many_bounds 8 x (Nat.le_refl _) (by simpa using h)).1
theorem lt_many (x : Nat) (h : x < 18446744073709551616) : x < 256 ^ many x := (many_bounds 8 x (Nat.le_refl _) (by simpa using h)).2.1
theorem many_pos (x : Nat) (h : x < 18446744073709551616) (h0 : 0 < x) : 0 < many x ∧ 256 ^ (many x - 1) ≤ x := (many_bounds 8 x (Nat.le_refl _) (by simpa using h)).2.2 h0

/-- As many bytes as the number has: no more and no fewer have a first one that is not 0. -/
theorem many_unique (x m : Nat) (h : x < 18446744073709551616) (hlt : x < 256 ^ m) (hge : 0 < m → 256 ^ (m - 1) ≤ x) : many x = m := by
  rcases Nat.eq_zero_or_pos x with h0 | h0
  · subst h0
    rw [many_zero]
    rcases Nat.eq_zero_or_pos m with hm | hm
    · exact hm.symm
    · have := hge hm
      have hp : 0 < 256 ^ (m - 1) := Nat.pow_pos (by omega)
      omega
  · obtain ⟨h1, h2⟩ := many_pos x h h0
    have h3 := lt_many x h
    have hm : 0 < m := by
      rcases Nat.eq_zero_or_pos m with hm | hm
      · subst hm
        simp at hlt
        omega
      · exact hm
    have h4 := hge hm
    have a : ¬ m < many x := fun hh => by
      have : 256 ^ m ≤ 256 ^ (many x - 1) := Nat.pow_le_pow_right (by omega) (by omega)
      omega
    have b : ¬ many x < m := fun hh => by
      have : 256 ^ many x ≤ 256 ^ (m - 1) := Nat.pow_le_pow_right (by omega) (by omega)
      omega
    omega

theorem ofNat_toNat (n : Nat) : (UInt8.ofNat n).toNat = n % 256 := by simp

theorem beVal_from : ∀ (l : List UInt8) (v : Nat), l.foldl (fun v b => v * 256 + b.toNat) v = v * 256 ^ l.length + beVal l
  | [], v => by simp [beVal]
  | b :: l, v => by
    have h1 := beVal_from l (v * 256 + b.toNat)
    have h2 := beVal_from l b.toNat
    have h3 : beVal (b :: l) = l.foldl (fun v b => v * 256 + b.toNat) b.toNat := by simp [beVal]
    rw [List.foldl_cons, h1, h3, h2, List.length_cons, Nat.pow_succ, Nat.add_mul, Nat.mul_assoc, Nat.mul_comm 256, Nat.add_assoc]
theorem beVal_cons (b : UInt8) (l : List UInt8) : beVal (b :: l) = b.toNat * 256 ^ l.length + beVal l := by
  have h := beVal_from l b.toNat
  simpa [beVal] using h

theorem beVal_encTail (m x : Nat) : beVal (encTail m x) = x % 256 ^ m := by
  induction m with
  | zero => simp [encTail, beVal, Nat.mod_one]
  | succ m ih =>
    rw [encTail, beVal_cons, ih, encTail_length, ofNat_toNat, Nat.mod_mod, Nat.pow_succ, Nat.mod_mul, Nat.add_comm, Nat.mul_comm]

theorem encTail_beVal : ∀ l : List UInt8, encTail l.length (beVal l) = l
  | [] => rfl
  | b :: l => by
    have hlt := beVal_lt l
    have hb := b.toNat_lt
    have hp : 0 < 256 ^ l.length := Nat.pow_pos (by omega)
    rw [List.length_cons, encTail, beVal_cons]
    have e1 : (b.toNat * 256 ^ l.length + beVal l) / 256 ^ l.length = b.toNat := by
      rw [Nat.add_comm, Nat.add_mul_div_right _ _ hp, Nat.div_eq_of_lt hlt, Nat.zero_add]
    have e2 : ∀ (m a c : Nat), m ≤ l.length → encTail m (a * 256 ^ l.length + c) = encTail m c := by
      intro m
      induction m with
      | zero => intros; rfl
      | succ m ih =>
        intro a c hm
        have hpm : 0 < 256 ^ m := Nat.pow_pos (by omega)
        obtain ⟨d, hd⟩ : ∃ d, l.length = m + 1 + d := ⟨l.length - (m + 1), by omega⟩
        have e3 : (a * 256 ^ l.length + c) / 256 ^ m % 256 = c / 256 ^ m % 256 := by
          rw [hd, show m + 1 + d = d + 1 + m from by omega, Nat.pow_add, ← Nat.mul_assoc, Nat.add_comm, Nat.add_mul_div_right _ _ hpm, Nat.pow_succ, ← Nat.mul_assoc, Nat.add_mul_mod_self_right]
        rw [encTail, encTail, e3, ih a c (by omega)]
    rw [e1, e2 l.length b.toNat (beVal l) (Nat.le_refl _), encTail_beVal l, Nat.mod_eq_of_lt (by omega)]
    simp

/-- What is laid is read: no error, the number, and what is behind it. -/
theorem numErr_enc (x : Nat) (h : x < 18446744073709551616) (t : List UInt8) : numErr (encNum x ++ t) = 0 ∧ numMany (encNum x ++ t) = many x ∧ numVal (encNum x ++ t) = x ∧ numRest (encNum x ++ t) = t := by
  have h8 := many_le x h
  have hE : numErr (encNum x ++ t) = 0 := by
    simp only [encNum, List.cons_append, numErr, ofNat_toNat]
    rw [if_neg (by omega), if_neg (by rw [List.length_append, encTail_length]; omega), if_neg]
    rintro ⟨hp, hh⟩
    have hm : many x % 256 = many x := Nat.mod_eq_of_lt (by omega)
    rw [hm] at hp
    obtain ⟨k, hk⟩ : ∃ k, many x = k + 1 := ⟨many x - 1, by omega⟩
    rw [hk, encTail, List.cons_append, List.head?_cons, Option.some.injEq] at hh
    have h0 : 0 < x := by
      rcases Nat.eq_zero_or_pos x with h0 | h0
      · subst h0
        rw [many_zero] at hp
        omega
      · exact h0
    have h1 := (many_pos x h h0).2
    have h2 := lt_many x h
    rw [hk] at h1 h2
    have h3 : (UInt8.ofNat (x / 256 ^ k % 256)).toNat = 0 := by rw [hh]; rfl
    rw [ofNat_toNat, Nat.mod_mod] at h3
    have hpk : 0 < 256 ^ k := Nat.pow_pos (by omega)
    have h4 : x / 256 ^ k < 256 := by
      rw [Nat.div_lt_iff_lt_mul hpk, Nat.mul_comm, ← Nat.pow_succ]
      exact h2
    have h5 : 0 < x / 256 ^ k := Nat.div_pos h1 hpk
    omega
  have hH : ((encNum x ++ t).headD 0).toNat = many x := by
    simp only [encNum, List.cons_append, List.headD_cons, ofNat_toNat]
    exact Nat.mod_eq_of_lt (by omega)
  have hT : (encNum x ++ t).drop 1 = encTail (many x) x ++ t := by simp [encNum]
  refine ⟨hE, by rw [numMany, if_pos hE, hH], ?_, ?_⟩
  · rw [numVal, if_pos hE, hH, hT, List.take_left' (encTail_length _ _), beVal_encTail, Nat.mod_eq_of_lt (lt_many x h)]
  · rw [numRest, if_pos hE, hH, ← List.drop_drop, hT, List.drop_left' (encTail_length _ _)]

theorem numVal_lt (l : List UInt8) : numVal l < 18446744073709551616 := by
  have := stNumV_lt (l, 0)
  simpa [stNumV] using this

/-- What is read is laid as just these bytes. -/
theorem enc_num {l : List UInt8} (h : numErr l = 0) : l = encNum (numVal l) ++ numRest l := by
  obtain ⟨h8, hlt⟩ := numErr_ok h
  have hlt64 := numVal_lt l
  unfold numMany at h8 hlt
  rw [if_pos h] at h8 hlt
  rw [numVal, if_pos h] at hlt64
  cases l with
  | nil => simp [numErr] at h
  | cons x t =>
    simp only [List.headD_cons, List.length_cons, List.drop_succ_cons, List.drop_zero] at h8 hlt hlt64
    have hlen : (t.take x.toNat).length = x.toNat := by rw [List.length_take]; omega
    have hv : numVal (x :: t) = beVal (t.take x.toNat) := by rw [numVal, if_pos h]; rfl
    have hr : numRest (x :: t) = t.drop x.toNat := by rw [numRest, if_pos h, Nat.add_comm]; rfl
    have hm : many (beVal (t.take x.toNat)) = x.toNat := by
      refine many_unique _ _ hlt64 (by have := beVal_lt (t.take x.toNat); rwa [hlen] at this) (fun hp => ?_)
      simp only [numErr] at h
      rw [if_neg (by omega), if_neg (by omega)] at h
      split at h
      · simp at h
      · rename_i hno
        match t, hlt with
        | [], hlt => simp at hlt; omega
        | y :: t', _ =>
          have hy : y ≠ 0 := fun hy => hno ⟨hp, by rw [hy]; rfl⟩
          have hy' : 0 < y.toNat := Nat.pos_of_ne_zero (fun hh => hy (UInt8.toNat_inj.1 (by rw [hh]; rfl)))
          obtain ⟨k, hk⟩ : ∃ k, x.toNat = k + 1 := ⟨x.toNat - 1, by omega⟩
          rw [hk, List.length_take, List.length_cons] at hlen
          have hl' : (t'.take k).length = k := by rw [List.length_take]; omega
          rw [hk, List.take_succ_cons, beVal_cons, hl', Nat.add_sub_cancel]
          exact Nat.le_trans (Nat.le_mul_of_pos_left _ hy') (Nat.le_add_right _ _)
    rw [hv, hr, encNum, hm]
    have e1 : encTail x.toNat (beVal (t.take x.toNat)) = t.take x.toNat := by
      have := encTail_beVal (t.take x.toNat)
      rwa [hlen] at this
    rw [e1, List.cons_append, List.take_append_drop]
    simp

end Go.Proofs.Ythpfdenpgegheaa.Lay
