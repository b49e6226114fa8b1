/-
  What the field's Power and Log tell, in plain mathematics.
-/
import Derived.Test.YtgakeecibofiiaaPoly
namespace Go.Proofs.Ytgakeecibofiiaa


/-- What Power tells. -/
def powL (a : UInt8) (n : Int) : UInt8 := if n < 0 then (if a = 0 then 0 else Gf.pw (Gf.inv a) (n.natAbs % 255)) else if n = 0 then 1 else if a = 0 then 0 else Gf.pw a (n.natAbs % 255)
theorem tmod_neg {n : Int} (h : n < 0) : n.tmod 255 = -((n.natAbs % 255 : Nat) : Int) := by
  obtain ⟨m, rfl⟩ : ∃ m : Nat, n = -(m : Int) := ⟨n.natAbs, by omega⟩
  rw [Int.neg_tmod, Int.tmod_eq_emod_of_nonneg (Int.natCast_nonneg _)]
  simp
theorem tmod_pos {n : Int} (h : 0 ≤ n) : n.tmod 255 = ((n.natAbs % 255 : Nat) : Int) := by
  rw [Int.tmod_eq_emod_of_nonneg h]
  omega

theorem powL_nat (a : UInt8) (k : Nat) (hk : k < 255) (h : a ≠ 0) : powL a (k : Int) = Gf.pw a k := by
  rw [powL, if_neg (by omega)]
  by_cases h0 : k = 0
  · rw [if_pos (by omega), h0]
    rfl
  · rw [if_neg (by omega), if_neg h, Int.natAbs_natCast, Nat.mod_eq_of_lt hk]
/-- What Log tells. -/
def logL (a : UInt8) : Int := if a = 0 then -1 else (Gf.glog a.toNat : Int)
theorem pw2_toNat (k : Nat) : (Gf.pw 2 k).toNat = Gf.gpow 2 k := Gf.pw_toNat 2 k

/-- A polynomial's value, as far as k. -/
def evTo (p : List UInt8) (x : UInt8) (k : Nat) : UInt8 := Gf.sum k (fun i => Gf.mul (p.getD i 0) (Gf.pw x i))
theorem powL_any (x : UInt8) (k : Nat) (hk : k < 255) : powL x (k : Int) = Gf.pw x k := by
  by_cases h : x = 0
  · subst h
    rw [powL, if_neg (by omega)]
    by_cases h0 : k = 0
    · rw [if_pos (by omega), h0]
      rfl
    · rw [if_neg (by omega), if_pos rfl, Gf.pw_zero k (by omega)]
  · exact powL_nat x k hk h

theorem log_neg (a : UInt8) (h : a ≠ 0) : 0 ≤ logL a ∧ logL a < 255 := by
  rw [logL, if_neg h]
  have := (Gf.glog_spec a.toNat (Gf.lt256 a) (Gf.toNat_ne h)).1
  omega
theorem exp_log (a : UInt8) (h : a ≠ 0) : powL 2 (logL a) = a := by
  obtain ⟨h1, h2, _⟩ := Gf.glog_spec a.toNat (Gf.lt256 a) (Gf.toNat_ne h)
  rw [logL, if_neg h, powL_nat 2 _ h1 (by decide)]
  exact UInt8.toNat_inj.1 (by rw [pw2_toNat]; exact h2)
theorem div_mul (a b : UInt8) (h : a ≠ 0) : Gf.mul (Gf.mul a b) (Gf.inv a) = b := by rw [Gf.mul_comm a b, Gf.mul_assoc, Gf.mul_inv h, Gf.mul_one]

theorem powL_pw {a : UInt8} (h : a ≠ 0) (k : Nat) : powL a (k : Int) = Gf.pw a k := by
  rw [powL, if_neg (by omega)]
  by_cases h0 : k = 0
  · rw [if_pos (by omega), h0]
    rfl
  · rw [if_neg (by omega), if_neg h, Int.natAbs_natCast, Gf.pw_mod h]
theorem powL_neg {a : UInt8} (h : a ≠ 0) (k : Nat) : powL a (-(k : Int)) = Gf.inv (Gf.pw a k) := by
  by_cases h0 : k = 0
  · subst h0
    have : Gf.inv 1 = 1 := (Gf.inv_uniq (Gf.mul_one 1)).symm
    rw [show (-((0 : Nat) : Int)) = 0 by omega, powL, if_neg (by omega), if_pos rfl]
    exact this.symm
  · rw [powL, if_pos (by omega), if_neg h, Int.natAbs_neg, Int.natAbs_natCast, Gf.pw_mod (Gf.inv_ne h), Gf.pw_inv h]
theorem powL_zero (n : Int) (h : n ≠ 0) : powL 0 n = 0 := by
  by_cases hneg : n < 0
  · rw [powL, if_pos hneg, if_pos rfl]
  · rw [powL, if_neg hneg, if_neg h, if_pos rfl]
theorem powL_at (a : UInt8) : powL a 0 = 1 := by rw [powL, if_neg (by omega), if_pos rfl]

end Go.Proofs.Ytgakeecibofiiaa
