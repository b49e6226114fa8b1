/-
  The field of 256 numbers, over bytes; sums, in plain mathematics.
-/
import Derived.Test.YtgakeecibofiiaaGf
namespace Go.Proofs.Ytgakeecibofiiaa.Gf

/-- The product, and the inverse, of bytes. -/
def mul (a b : UInt8) : UInt8 := UInt8.ofNat (gm a.toNat b.toNat)
def inv (a : UInt8) : UInt8 := UInt8.ofNat (ginv a.toNat)
theorem lt256 (a : UInt8) : a.toNat < 256 := a.toNat_lt
theorem ofNat_toNat' (n : Nat) (h : n < 256) : (UInt8.ofNat n).toNat = n := by rw [UInt8.toNat_ofNat']; exact Nat.mod_eq_of_lt h
theorem mul_toNat (a b : UInt8) : (mul a b).toNat = gm a.toNat b.toNat := ofNat_toNat' _ (gm_lt _ _ (lt256 a) (lt256 b))
theorem inv_toNat (a : UInt8) : (inv a).toNat = ginv a.toNat := ofNat_toNat' _ (ginv_table _ (lt256 a)).1
theorem mul_comm (a b : UInt8) : mul a b = mul b a := UInt8.toNat_inj.1 (by rw [mul_toNat, mul_toNat, gm_comm _ _ (lt256 a) (lt256 b)])
theorem mul_assoc (a b c : UInt8) : mul (mul a b) c = mul a (mul b c) := UInt8.toNat_inj.1 (by rw [mul_toNat, mul_toNat, mul_toNat, mul_toNat, gm_assoc _ _ _ (lt256 a) (lt256 b) (lt256 c)])
theorem mul_add (a b c : UInt8) : mul a (b ^^^ c) = mul a b ^^^ mul a c := UInt8.toNat_inj.1 (by rw [UInt8.toNat_xor, mul_toNat, mul_toNat, mul_toNat, UInt8.toNat_xor, gm_right])
theorem add_mul (a b c : UInt8) : mul (a ^^^ b) c = mul a c ^^^ mul b c := by rw [mul_comm, mul_add, mul_comm c a, mul_comm c b]
theorem mul_zero (a : UInt8) : mul a 0 = 0 := UInt8.toNat_inj.1 (by rw [mul_toNat]; exact gm_zero_right _)
theorem zero_mul (a : UInt8) : mul 0 a = 0 := by rw [mul_comm, mul_zero]
theorem mul_one (a : UInt8) : mul a 1 = a := UInt8.toNat_inj.1 (by rw [mul_toNat]; exact gm_one _ (lt256 a))
theorem one_mul (a : UInt8) : mul 1 a = a := by rw [mul_comm, mul_one]
theorem toNat_ne {a : UInt8} (h : a ≠ 0) : a.toNat ≠ 0 := fun e => h (UInt8.toNat_inj.1 e)
theorem mul_inv {a : UInt8} (h : a ≠ 0) : mul a (inv a) = 1 := UInt8.toNat_inj.1 (by rw [mul_toNat, inv_toNat]; exact (ginv_table _ (lt256 a)).2.1 (toNat_ne h))
theorem inv_mul {a : UInt8} (h : a ≠ 0) : mul (inv a) a = 1 := by rw [mul_comm, mul_inv h]
theorem inv_zero : inv 0 = 0 := UInt8.toNat_inj.1 (by rw [inv_toNat]; exact (ginv_table 0 (by omega)).2.2 rfl)
theorem one_ne : (1 : UInt8) ≠ 0 := by decide
theorem mul_eq_zero {a b : UInt8} (h : mul a b = 0) : a = 0 ∨ b = 0 := by
  by_cases ha : a = 0
  · exact .inl ha
  · right
    have := congrArg (mul (inv a)) h
    rwa [← mul_assoc, inv_mul ha, one_mul, mul_zero] at this
theorem mul_ne {a b : UInt8} (ha : a ≠ 0) (hb : b ≠ 0) : mul a b ≠ 0 := fun h => (mul_eq_zero h).elim ha hb
theorem inv_ne {a : UInt8} (h : a ≠ 0) : inv a ≠ 0 := fun e => one_ne (by rw [← mul_inv h, e, mul_zero])
theorem mul_cancel {a b c : UInt8} (h : a ≠ 0) (e : mul a b = mul a c) : b = c := by
  have := congrArg (mul (inv a)) e
  rwa [← mul_assoc, ← mul_assoc, inv_mul h, one_mul, one_mul] at this
theorem inv_uniq {a b : UInt8} (e : mul a b = 1) : b = inv a := by
  have ha : a ≠ 0 := fun h => one_ne (by rw [← e, h, zero_mul])
  exact mul_cancel ha (by rw [e, mul_inv ha])
theorem inv_inv (a : UInt8) : inv (inv a) = a := by
  by_cases h : a = 0
  · rw [h, inv_zero, inv_zero]
  · exact (inv_uniq (inv_mul h)).symm
theorem inv_mul_both {a b : UInt8} (ha : a ≠ 0) (hb : b ≠ 0) : inv (mul a b) = mul (inv a) (inv b) :=
  (inv_uniq (by rw [mul_assoc, ← mul_assoc b, mul_comm b, mul_assoc (inv a), mul_inv hb, mul_one, mul_inv ha])).symm

theorem add_assoc (a b c : UInt8) : (a ^^^ b) ^^^ c = a ^^^ (b ^^^ c) := UInt8.toNat_inj.1 (by simp only [UInt8.toNat_xor, Nat.xor_assoc])
theorem add_comm (a b : UInt8) : a ^^^ b = b ^^^ a := UInt8.toNat_inj.1 (by simp only [UInt8.toNat_xor, Nat.xor_comm])
theorem add_self (a : UInt8) : a ^^^ a = 0 := UInt8.toNat_inj.1 (by simp)
theorem add_zero (a : UInt8) : a ^^^ 0 = a := UInt8.toNat_inj.1 (by simp)
theorem zero_add (a : UInt8) : 0 ^^^ a = a := by rw [add_comm, add_zero]
theorem add_left (a b : UInt8) : a ^^^ (a ^^^ b) = b := by rw [← add_assoc, add_self, zero_add]
theorem add_four (a b c d : UInt8) : (a ^^^ b) ^^^ (c ^^^ d) = (a ^^^ c) ^^^ (b ^^^ d) := by
  rw [add_assoc, add_assoc, ← add_assoc b c d, add_comm b c, add_assoc c b d]
theorem eq_of_add {a b : UInt8} (h : a ^^^ b = 0) : a = b := by
  have := congrArg (a ^^^ ·) h
  simp only [add_left, add_zero] at this
  exact this.symm
theorem add_ne {a b : UInt8} (h : a ≠ b) : a ^^^ b ≠ 0 := fun e => h (eq_of_add e)

/-- A sum over a list. -/
def lsum {α : Type} (l : List α) (f : α → UInt8) : UInt8 := l.foldr (fun a s => f a ^^^ s) 0
section
variable {α β : Type}
theorem lsum_nil (f : α → UInt8) : lsum [] f = 0 := rfl
theorem lsum_cons (a : α) (l : List α) (f : α → UInt8) : lsum (a :: l) f = f a ^^^ lsum l f := rfl
theorem lsum_append (l m : List α) (f : α → UInt8) : lsum (l ++ m) f = lsum l f ^^^ lsum m f := by
  induction l with
  | nil => rw [List.nil_append, lsum_nil, zero_add]
  | cons a l ih => rw [List.cons_append, lsum_cons, lsum_cons, ih, add_assoc]
theorem lsum_congr {l : List α} {f g : α → UInt8} (h : ∀ a ∈ l, f a = g a) : lsum l f = lsum l g := by
  induction l with
  | nil => rfl
  | cons a l ih => rw [lsum_cons, lsum_cons, h a (List.mem_cons_self ..), ih (fun b hb => h b (List.mem_cons_of_mem _ hb))]
theorem lsum_zero {l : List α} {f : α → UInt8} (h : ∀ a ∈ l, f a = 0) : lsum l f = 0 := by
  induction l with
  | nil => rfl
  | cons a l ih => rw [lsum_cons, h a (List.mem_cons_self ..), ih (fun b hb => h b (List.mem_cons_of_mem _ hb)), add_zero]
theorem lsum_add (l : List α) (f g : α → UInt8) : lsum l (fun a => f a ^^^ g a) = lsum l f ^^^ lsum l g := by
  induction l with
  | nil => rw [lsum_nil, lsum_nil, lsum_nil, add_zero]
  | cons a l ih => rw [lsum_cons, lsum_cons, lsum_cons, ih, add_four]
theorem lsum_mul (l : List α) (c : UInt8) (f : α → UInt8) : lsum l (fun a => mul c (f a)) = mul c (lsum l f) := by
  induction l with
  | nil => rw [lsum_nil, lsum_nil, mul_zero]
  | cons a l ih => rw [lsum_cons, lsum_cons, ih, mul_add]
theorem lsum_mul_right (l : List α) (c : UInt8) (f : α → UInt8) : lsum l (fun a => mul (f a) c) = mul (lsum l f) c := by
  rw [mul_comm, ← lsum_mul]
  exact lsum_congr (fun a _ => mul_comm _ _)
theorem lsum_swap (l : List α) (m : List β) (f : α → β → UInt8) : lsum l (fun a => lsum m (f a)) = lsum m (fun b => lsum l (fun a => f a b)) := by
  induction l with
  | nil => rw [lsum_nil, lsum_zero (fun b _ => lsum_nil _)]
  | cons a l ih =>
    rw [lsum_cons, ih, ← lsum_add]
    rfl
theorem lsum_perm {l m : List α} (h : l.Perm m) (f : α → UInt8) : lsum l f = lsum m f := by
  induction h with
  | nil => rfl
  | cons a _ ih => rw [lsum_cons, lsum_cons, ih]
  | swap a b l => rw [lsum_cons, lsum_cons, lsum_cons, lsum_cons, ← add_assoc, ← add_assoc, add_comm (f b)]
  | trans _ _ h1 h2 => rw [h1, h2]
theorem lsum_map (l : List α) (g : α → β) (f : β → UInt8) : lsum (l.map g) f = lsum l (fun a => f (g a)) := by
  induction l with
  | nil => rfl
  | cons a l ih => rw [List.map_cons, lsum_cons, lsum_cons, ih]
/-- Only one part counts. -/
theorem lsum_one [DecidableEq α] {l : List α} (hn : l.Nodup) {a : α} (ha : a ∈ l) {f : α → UInt8} (h : ∀ b ∈ l, b ≠ a → f b = 0) : lsum l f = f a := by
  induction l with
  | nil => cases ha
  | cons b l ih =>
    rw [List.nodup_cons] at hn
    rw [lsum_cons]
    by_cases e : b = a
    · subst e
      rw [lsum_zero (fun c hc => h c (List.mem_cons_of_mem _ hc) (fun e => hn.1 (e ▸ hc))), add_zero]
    · rw [h b (List.mem_cons_self ..) e, zero_add]
      exact ih hn.2 ((List.mem_cons.1 ha).resolve_left (fun e' => e e'.symm)) (fun c hc => h c (List.mem_cons_of_mem _ hc))
end
/-- A sum over the numbers below n. -/
def sum (n : Nat) (f : Nat → UInt8) : UInt8 := lsum (List.range n) f
theorem sum_succ (n : Nat) (f : Nat → UInt8) : sum (n + 1) f = sum n f ^^^ f n := by
  rw [sum, List.range_succ, lsum_append, lsum_cons, lsum_nil, add_zero]
  rfl
theorem sum_zero' (f : Nat → UInt8) : sum 0 f = 0 := rfl
theorem sum_congr {n : Nat} {f g : Nat → UInt8} (h : ∀ k, k < n → f k = g k) : sum n f = sum n g := lsum_congr (fun a ha => h a (List.mem_range.1 ha))
theorem sum_zero {n : Nat} {f : Nat → UInt8} (h : ∀ k, k < n → f k = 0) : sum n f = 0 := lsum_zero (fun a ha => h a (List.mem_range.1 ha))
theorem sum_one {n j : Nat} (hj : j < n) {f : Nat → UInt8} (h : ∀ k, k < n → k ≠ j → f k = 0) : sum n f = f j := lsum_one List.nodup_range (List.mem_range.2 hj) (fun b hb => h b (List.mem_range.1 hb))
theorem sum_front (n : Nat) (f : Nat → UInt8) : sum (n + 1) f = f 0 ^^^ sum n (fun k => f (k + 1)) := by
  rw [sum, List.range_succ_eq_map, lsum_cons, lsum_map]
  rfl
end Go.Proofs.Ytgakeecibofiiaa.Gf
