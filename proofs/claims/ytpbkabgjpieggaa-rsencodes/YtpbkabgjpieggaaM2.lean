/-
  The field of 256 numbers, over bytes; sums, in plain mathematics.
  Matrices over the field, in plain mathematics: products, and how many rows hang on no others (by factors that may be turned back).
  Polynomials over the field, in plain mathematics: values, roots, products; Cauchy's matrices.
  What the field's Power and Log tell, in plain mathematics.
  Rows are swept, column by column: what package mat's sweep comes to.
  Sweeping tells the rank, and turns a matrix back.
-/
import Derived.Test.YtpbkabgjpieggaaGf

namespace Go.Proofs.Ytpbkabgjpieggaa.Gf

/-- The product, and the inverse, of bytes. -/
def mul (a b : UInt8) : UInt8 := UInt8.ofNat (gm a.toNat b.toNat)
def inv (a : UInt8) : UInt8 := UInt8.ofNat (ginv a.toNat)
theorem lt256 (a : UInt8) : a.toNat < 256 := a.toNat_lt
theorem ofNat_toNat' (n : Nat) (h : n < 256) : (UInt8.ofNat n).toNat = n := by rw [UInt8.toNat_ofNat']; exact Nat.mod_eq_of_lt h
theorem mul_toNat (a b : UInt8) : (mul a b).toNat = gm a.toNat b.toNat := ofNat_toNat' _ (gm_lt _ _ (lt256 a) (lt256 b))
theorem inv_toNat (a : UInt8) : (inv a).toNat = ginv a.toNat := ofNat_toNat' _ (ginv_table _ (lt256 a)).1
theorem mul_comm (a b : UInt8) : mul a b = mul b a := UInt8.toNat_inj.1 (by rw [mul_toNat, mul_toNat, gm_comm _ _ (lt256 a) (lt256 b)])
theorem mul_assoc (a b c : UInt8) : mul (mul a b) c = mul a (mul b c) := UInt8.toNat_inj.1 (by rw [mul_toNat, mul_toNat, mul_toNat, mul_toNat, gm_assoc _ _ _ (lt256 a) (lt256 b) (lt256 c)])
theorem mul_add (a b c : UInt8) : mul a (b ^^^ c) = mul a b ^^^ mul a c := UInt8.toNat_inj.1 (by rw [UInt8.toNat_xor, mul_toNat, mul_toNat, mul_toNat, UInt8.toNat_xor, gm_right])
theorem add_mul (a b c : UInt8) : mul (a ^^^ b) c = mul a c ^^^ mul b c := by rw [mul_comm, mul_add, mul_comm c a, mul_comm c b]
theorem mul_zero (a : UInt8) : mul a 0 = 0 := UInt8.toNat_inj.1 (by rw [mul_toNat]; exact gm_zero_right _)
theorem zero_mul (a : UInt8) : mul 0 a = 0 := by rw [mul_comm, mul_zero]
theorem mul_one (a : UInt8) : mul a 1 = a := UInt8.toNat_inj.1 (by rw [mul_toNat]; exact gm_one _ (lt256 a))
theorem one_mul (a : UInt8) : mul 1 a = a := by rw [mul_comm, mul_one]
theorem toNat_ne {a : UInt8} (h : a ≠ 0) : a.toNat ≠ 0 := fun e => h (UInt8.toNat_inj.1 e)
theorem mul_inv {a : UInt8} (h : a ≠ 0) : mul a (inv a) = 1 := UInt8.toNat_inj.1 (by rw [mul_toNat, inv_toNat]; exact (ginv_table _ (lt256 a)).2.1 (toNat_ne h))
theorem inv_mul {a : UInt8} (h : a ≠ 0) : mul (inv a) a = 1 := by rw [mul_comm, mul_inv h]
theorem inv_zero : inv 0 = 0 := UInt8.toNat_inj.1 (by rw [inv_toNat]; exact (ginv_table 0 (by omega)).2.2 rfl)
theorem one_ne : (1 : UInt8) ≠ 0 := by decide
theorem mul_eq_zero {a b : UInt8} (h : mul a b = 0) : a = 0 ∨ b = 0 := by
  by_cases ha : a = 0
  · exact .inl ha
  · right
    have := congrArg (mul (inv a)) h
    rwa [← mul_assoc, inv_mul ha, one_mul, mul_zero] at this
theorem mul_ne {a b : UInt8} (ha : a ≠ 0) (hb : b ≠ 0) : mul a b ≠ 0 := fun h => (mul_eq_zero h).elim ha hb
theorem inv_ne {a : UInt8} (h : a ≠ 0) : inv a ≠ 0 := fun e => one_ne (by rw [← mul_inv h, e, mul_zero])
theorem mul_cancel {a b c : UInt8} (h : a ≠ 0) (e : mul a b = mul a c) : b = c := by
  have := congrArg (mul (inv a)) e
  rwa [← mul_assoc, ← mul_assoc, inv_mul h, one_mul, one_mul] at this
theorem inv_uniq {a b : UInt8} (e : mul a b = 1) : b = inv a := by
  have ha : a ≠ 0 := fun h => one_ne (by rw [← e, h, zero_mul])
  exact mul_cancel ha (by rw [e, mul_inv ha])
theorem inv_inv (a : UInt8) : inv (inv a) = a := by
  by_cases h : a = 0
  · rw [h, inv_zero, inv_zero]
  · exact (inv_uniq (inv_mul h)).symm
theorem inv_mul_both {a b : UInt8} (ha : a ≠ 0) (hb : b ≠ 0) : inv (mul a b) = mul (inv a) (inv b) :=
  (inv_uniq (by rw [mul_assoc, ← mul_assoc b, mul_comm b, mul_assoc (inv a), mul_inv hb, mul_one, mul_inv ha])).symm

theorem add_assoc (a b c : UInt8) : (a ^^^ b) ^^^ c = a ^^^ (b ^^^ c) := UInt8.toNat_inj.1 (by simp only [UInt8.toNat_xor, Nat.xor_assoc])
theorem add_comm (a b : UInt8) : a ^^^ b = b ^^^ a := UInt8.toNat_inj.1 (by simp only [UInt8.toNat_xor, Nat.xor_comm])
theorem add_self (a : UInt8) : a ^^^ a = 0 := UInt8.toNat_inj.1 (by simp)
theorem add_zero (a : UInt8) : a ^^^ 0 = a := UInt8.toNat_inj.1 (by simp)
theorem zero_add (a : UInt8) : 0 ^^^ a = a := by rw [add_comm, add_zero]
theorem add_left (a b : UInt8) : a ^^^ (a ^^^ b) = b := by rw [← add_assoc, add_self, zero_add]
theorem add_four (a b c d : UInt8) : (a ^^^ b) ^^^ (c ^^^ d) = (a ^^^ c) ^^^ (b ^^^ d) := by
  rw [add_assoc, add_assoc, ← add_assoc b c d, add_comm b c, add_assoc c b d]
theorem eq_of_add {a b : UInt8} (h : a ^^^ b = 0) : a = b := by
  have := congrArg (a ^^^ ·) h
  simp only [add_left, add_zero] at this
  exact this.symm
theorem add_ne {a b : UInt8} (h : a ≠ b) : a ^^^ b ≠ 0 := fun e => h (eq_of_add e)

/-- A sum over a list. -/
def lsum {α : Type} (l : List α) (f : α → UInt8) : UInt8 := l.foldr (fun a s => f a ^^^ s) 0
section
variable {α β : Type}
theorem lsum_nil (f : α → UInt8) : lsum [] f = 0 := rfl
theorem lsum_cons (a : α) (l : List α) (f : α → UInt8) : lsum (a :: l) f = f a ^^^ lsum l f := rfl
theorem lsum_append (l m : List α) (f : α → UInt8) : lsum (l ++ m) f = lsum l f ^^^ lsum m f := by
  induction l with
  | nil => rw [List.nil_append, lsum_nil, zero_add]
  | cons a l ih => rw [List.cons_append, lsum_cons, lsum_cons, ih, add_assoc]
theorem lsum_congr {l : List α} {f g : α → UInt8} (h : ∀ a ∈ l, f a = g a) : lsum l f = lsum l g := by
  induction l with
  | nil => rfl
  | cons a l ih => rw [lsum_cons, lsum_cons, h a (List.mem_cons_self ..), ih (fun b hb => h b (List.mem_cons_of_mem _ hb))]
theorem lsum_zero {l : List α} {f : α → UInt8} (h : ∀ a ∈ l, f a = 0) : lsum l f = 0 := by
  induction l with
  | nil => rfl
  | cons a l ih => rw [lsum_cons, h a (List.mem_cons_self ..), ih (fun b hb => h b (List.mem_cons_of_mem _ hb)), add_zero]
theorem lsum_add (l : List α) (f g : α → UInt8) : lsum l (fun a => f a ^^^ g a) = lsum l f ^^^ lsum l g := by
  induction l with
  | nil => rw [lsum_nil, lsum_nil, lsum_nil, add_zero]
  | cons a l ih => rw [lsum_cons, lsum_cons, lsum_cons, ih, add_four]
theorem lsum_mul (l : List α) (c : UInt8) (f : α → UInt8) : lsum l (fun a => mul c (f a)) = mul c (lsum l f) := by
  induction l with
  | nil => rw [lsum_nil, lsum_nil, mul_zero]
  | cons a l ih => rw [lsum_cons, lsum_cons, ih, mul_add]
theorem lsum_mul_right (l : List α) (c : UInt8) (f : α → UInt8) : lsum l (fun a => mul (f a) c) = mul (lsum l f) c := by
  rw [mul_comm, ← lsum_mul]
  exact lsum_congr (fun a _ => mul_comm _ _)
theorem lsum_swap (l : List α) (m : List β) (f : α → β → UInt8) : lsum l (fun a => lsum m (f a)) = lsum m (fun b => lsum l (fun a => f a b)) := by
  induction l with
  | nil => rw [lsum_nil, lsum_zero (fun b _ => lsum_nil _)]
  | cons a l ih =>
    rw [lsum_cons, ih, ← lsum_add]
    rfl
theorem lsum_perm {l m : List α} (h : l.Perm m) (f : α → UInt8) : lsum l f = lsum m f := by
  induction h with
  | nil => rfl
  | cons a _ ih => rw [lsum_cons, lsum_cons, ih]
  | swap a b l => rw [lsum_cons, lsum_cons, lsum_cons, lsum_cons, ← add_assoc, ← add_assoc, add_comm (f b)]
  | trans _ _ h1 h2 => rw [h1, h2]
theorem lsum_map (l : List α) (g : α → β) (f : β → UInt8) : lsum (l.map g) f = lsum l (fun a => f (g a)) := by
  induction l with
  | nil => rfl
  | cons a l ih => rw [List.map_cons, lsum_cons, lsum_cons, ih]
/-- Only one part counts. -/
theorem lsum_one [DecidableEq α] {l : List α} (hn : l.Nodup) {a : α} (ha : a ∈ l) {f : α → UInt8} (h : ∀ b ∈ l, b ≠ a → f b = 0) : lsum l f = f a := by
  induction l with
  | nil => cases ha
  | cons b l ih =>
    rw [List.nodup_cons] at hn
    rw [lsum_cons]
    by_cases e : b = a
    · subst e
      rw [lsum_zero (fun c hc => h c (List.mem_cons_of_mem _ hc) (fun e => hn.1 (e ▸ hc))), add_zero]
    · rw [h b (List.mem_cons_self ..) e, zero_add]
      exact ih hn.2 ((List.mem_cons.1 ha).resolve_left (fun e' => e e'.symm)) (fun c hc => h c (List.mem_cons_of_mem _ hc))
end
/-- A sum over the numbers below n. -/
def sum (n : Nat) (f : Nat → UInt8) : UInt8 := lsum (List.range n) f
theorem sum_succ (n : Nat) (f : Nat → UInt8) : sum (n + 1) f = sum n f ^^^ f n := by
  rw [sum, List.range_succ, lsum_append, lsum_cons, lsum_nil, add_zero]
  rfl
theorem sum_zero' (f : Nat → UInt8) : sum 0 f = 0 := rfl
theorem sum_congr {n : Nat} {f g : Nat → UInt8} (h : ∀ k, k < n → f k = g k) : sum n f = sum n g := lsum_congr (fun a ha => h a (List.mem_range.1 ha))
theorem sum_zero {n : Nat} {f : Nat → UInt8} (h : ∀ k, k < n → f k = 0) : sum n f = 0 := lsum_zero (fun a ha => h a (List.mem_range.1 ha))
theorem sum_one {n j : Nat} (hj : j < n) {f : Nat → UInt8} (h : ∀ k, k < n → k ≠ j → f k = 0) : sum n f = f j := lsum_one List.nodup_range (List.mem_range.2 hj) (fun b hb => h b (List.mem_range.1 hb))
theorem sum_front (n : Nat) (f : Nat → UInt8) : sum (n + 1) f = f 0 ^^^ sum n (fun k => f (k + 1)) := by
  rw [sum, List.range_succ_eq_map, lsum_cons, lsum_map]
  rfl
end Go.Proofs.Ytpbkabgjpieggaa.Gf


namespace Go.Proofs.Ytpbkabgjpieggaa.Gf

/-- A matrix: a number for each place; how many rows and columns it has is said besides. -/
abbrev Mat := Nat → Nat → UInt8
/-- The product, over n places. -/
def mm (n : Nat) (A B : Mat) : Mat := fun i j => sum n (fun k => mul (A i k) (B k j))
/-- The one that changes nothing. -/
def idm : Mat := fun i j => if i = j then 1 else 0
/-- Turned. -/
def tr (A : Mat) : Mat := fun i j => A j i
/-- Alike, as far as m rows and n columns go. -/
def Eqm (m n : Nat) (A B : Mat) : Prop := ∀ i, i < m → ∀ j, j < n → A i j = B i j
theorem Eqm.refl (m n : Nat) (A : Mat) : Eqm m n A A := fun _ _ _ _ => rfl
theorem Eqm.symm {m n : Nat} {A B : Mat} (h : Eqm m n A B) : Eqm m n B A := fun i hi j hj => (h i hi j hj).symm
theorem Eqm.trans {m n : Nat} {A B C : Mat} (h : Eqm m n A B) (k : Eqm m n B C) : Eqm m n A C := fun i hi j hj => (h i hi j hj).trans (k i hi j hj)
theorem mm_congr {m n p : Nat} {A A' B B' : Mat} (h : Eqm m n A A') (k : Eqm n p B B') : Eqm m p (mm n A B) (mm n A' B') := fun i hi j hj =>
  sum_congr (fun t ht => by rw [h i hi t ht, k t ht j hj])
theorem sum_swap (n p : Nat) (f : Nat → Nat → UInt8) : sum n (fun k => sum p (f k)) = sum p (fun t => sum n (fun k => f k t)) := lsum_swap _ _ _
theorem mm_assoc (n p : Nat) (A B C : Mat) (i j : Nat) : mm p (mm n A B) C i j = mm n A (mm p B C) i j := by
  have h1 : mm p (mm n A B) C i j = sum p (fun t => sum n (fun k => mul (mul (A i k) (B k t)) (C t j))) := sum_congr (fun t _ => (lsum_mul_right _ _ _).symm)
  have h2 : mm n A (mm p B C) i j = sum n (fun k => sum p (fun t => mul (A i k) (mul (B k t) (C t j)))) := sum_congr (fun k _ => (lsum_mul _ _ _).symm)
  rw [h1, h2, sum_swap]
  exact sum_congr (fun k _ => sum_congr (fun t _ => mul_assoc _ _ _))
theorem mm_id (n : Nat) (A : Mat) (i j : Nat) (hj : j < n) : mm n A idm i j = A i j := by
  refine (sum_one (f := fun k => mul (A i k) (idm k j)) hj (fun k _ hne => ?_)).trans ?_
  · simp [idm, hne, mul_zero]
  · simp [idm, mul_one]
theorem id_mm (n : Nat) (A : Mat) (i j : Nat) (hi : i < n) : mm n idm A i j = A i j := by
  refine (sum_one (f := fun k => mul (idm i k) (A k j)) hi (fun k _ hne => ?_)).trans ?_
  · simp [idm, Ne.symm hne, zero_mul]
  · simp [idm, one_mul]
theorem tr_mm (n : Nat) (A B : Mat) (i j : Nat) : tr (mm n A B) i j = mm n (tr B) (tr A) i j := sum_congr (fun _ _ => mul_comm _ _)
theorem tr_id : tr idm = idm := by
  funext i j
  simp only [tr, idm, eq_comm]

/-- More unknowns than there are equations: something that is not 0 meets them all. -/
theorem homog : ∀ (s : Nat) (Y : Mat) (J : List Nat), J.Nodup → s < J.length → ∃ v : Nat → UInt8, (∀ j, j ∉ J → v j = 0) ∧ (∃ j ∈ J, v j ≠ 0) ∧ ∀ i, i < s → lsum J (fun j => mul (Y i j) (v j)) = 0
  | 0, Y, [], _, h => by simp at h
  | 0, Y, j0 :: J, _, _ => ⟨fun j => if j = j0 then 1 else 0, fun j hj => by simp [show j ≠ j0 from fun e => hj (by simp [e])], ⟨j0, by simp, by simp⟩, fun i hi => by omega⟩
  | s + 1, Y, J, hn, hl => by
    by_cases hz : ∀ j ∈ J, Y s j = 0
    · obtain ⟨v, h1, h2, h3⟩ := homog s Y J hn (by omega)
      refine ⟨v, h1, h2, fun i hi => ?_⟩
      rcases Nat.lt_or_ge i s with h | h
      · exact h3 i h
      · obtain rfl : i = s := by omega
        exact lsum_zero (fun j hj => by rw [hz j hj, zero_mul])
    · obtain ⟨j0, hj0, hne⟩ : ∃ j0 ∈ J, Y s j0 ≠ 0 := by
        refine Classical.byContradiction fun hc => hz fun j hj => Classical.byContradiction fun he => hc ⟨j, hj, he⟩
      have hlen : (J.erase j0).length = J.length - 1 := List.length_erase_of_mem hj0
      have hpos : 0 < J.length := List.length_pos_of_mem hj0
      obtain ⟨v, h1, h2, h3⟩ := homog s (fun i j => Y i j ^^^ mul (mul (Y i j0) (inv (Y s j0))) (Y s j)) (J.erase j0) (hn.erase j0) (by omega)
      have hnot : j0 ∉ J.erase j0 := fun h => (List.Nodup.mem_erase_iff hn).1 h |>.1 rfl
      have hp : J.Perm (j0 :: J.erase j0) := List.perm_cons_erase hj0
      have hag : ∀ (t : UInt8) (i : Nat), lsum (J.erase j0) (fun j => mul (Y i j) (if j = j0 then t else v j)) = lsum (J.erase j0) (fun j => mul (Y i j) (v j)) := fun t i => lsum_congr (fun j hj => by rw [if_neg (show ¬ j = j0 from fun e => hnot (e ▸ hj))])
      refine ⟨fun j => if j = j0 then mul (lsum (J.erase j0) (fun j => mul (Y s j) (v j))) (inv (Y s j0)) else v j, fun j hj => ?_, ?_, fun i hi => ?_⟩
      · have : j ≠ j0 := fun e => hj (e ▸ hj0)
        simp only [if_neg this]
        exact h1 j (fun h => hj (List.mem_of_mem_erase h))
      · obtain ⟨j, hj, hv⟩ := h2
        refine ⟨j, List.mem_of_mem_erase hj, ?_⟩
        simp only [if_neg (show j ≠ j0 from fun e => hnot (e ▸ hj))]
        exact hv
      · rw [lsum_perm hp, lsum_cons, hag]
        show mul (Y i j0) (if j0 = j0 then mul (lsum (J.erase j0) (fun j => mul (Y s j) (v j))) (inv (Y s j0)) else v j0) ^^^ _ = 0
        rw [if_pos rfl]
        rcases Nat.lt_or_ge i s with h | h
        · have h4 := h3 i h
          rw [lsum_congr (g := fun j => mul (Y i j) (v j) ^^^ mul (mul (Y i j0) (inv (Y s j0))) (mul (Y s j) (v j))) (fun j _ => by rw [add_mul, mul_assoc _ (Y s j) (v j)]), lsum_add, lsum_mul] at h4
          rw [← h4, add_comm]
          congr 1
          rw [mul_comm (lsum _ _), ← mul_assoc]
        · obtain rfl : i = s := by omega
          rw [mul_comm (lsum _ _), ← mul_assoc, mul_inv hne, one_mul, add_self]

/-- What goes through fewer places than there are does not give all back. -/
theorem through_le {r s : Nat} {X Y : Mat} (h : Eqm r r (mm s X Y) idm) : r ≤ s := by
  refine Classical.byContradiction fun hc => ?_
  obtain ⟨v, _, ⟨j, hj, hv⟩, h3⟩ := homog s Y (List.range r) List.nodup_range (by rw [List.length_range]; omega)
  have hj' : j < r := List.mem_range.1 hj
  refine hv ?_
  have h4 : mm r (mm s X Y) (fun k _ => v k) j 0 = mm s X (mm r Y (fun k _ => v k)) j 0 := mm_assoc s r X Y _ j 0
  have h5 : mm s X (mm r Y (fun k _ => v k)) j 0 = 0 := sum_zero (fun k hk => by rw [show mm r Y (fun k _ => v k) k 0 = 0 from h3 k hk, mul_zero])
  have h6 : mm r (mm s X Y) (fun k _ => v k) j 0 = v j := (mm_congr (p := 1) h (Eqm.refl r 1 _) j hj' 0 (by omega)).trans (id_mm r _ j 0 hj')
  rw [← h6, h4, h5]

/-- M is a product over r places of two that may be turned back, each on one side. -/
def Fact (m n r : Nat) (M A A' B B' : Mat) : Prop := Eqm m n M (mm r A B) ∧ Eqm r r (mm m A' A) idm ∧ Eqm r r (mm n B B') idm
def IsRank (m n : Nat) (M : Mat) (r : Nat) : Prop := ∃ A A' B B', Fact m n r M A A' B B'
theorem IsRank.congr {m n r : Nat} {M M' : Mat} (h : IsRank m n M r) (e : Eqm m n M M') : IsRank m n M' r := by
  obtain ⟨A, A', B, B', h1, h2, h3⟩ := h
  exact ⟨A, A', B, B', e.symm.trans h1, h2, h3⟩
theorem IsRank.turn {m n r : Nat} {M : Mat} (h : IsRank m n M r) : IsRank n m (tr M) r := by
  obtain ⟨A, A', B, B', h1, h2, h3⟩ := h
  refine ⟨tr B, tr B', tr A, tr A', fun i hi j hj => ?_, fun i hi j hj => ?_, fun i hi j hj => ?_⟩
  · rw [← tr_mm]
    exact h1 j hj i hi
  · rw [← tr_mm]
    exact (h3 j hj i hi).trans (by simp only [idm, eq_comm])
  · rw [← tr_mm]
    exact (h2 j hj i hi).trans (by simp only [idm, eq_comm])
theorem IsRank.le_of {m n r s : Nat} {M : Mat} (h : IsRank m n M r) (k : IsRank m n M s) : r ≤ s := by
  obtain ⟨A, A', B, B', h1, h2, h3⟩ := h
  obtain ⟨C, _, D, _, k1, _, _⟩ := k
  -- A' M B' is the one that changes nothing; it goes through s places
  refine through_le (X := mm m A' C) (Y := mm n D B') (fun i hi j hj => ?_)
  have e1 : mm s (mm m A' C) (mm n D B') i j = mm m A' (mm s C (mm n D B')) i j := mm_assoc m s A' C _ i j
  have e2 : ∀ t, mm s C (mm n D B') t j = mm n (mm s C D) B' t j := fun t => (mm_assoc s n C D B' t j).symm
  have e3 : ∀ t, t < m → mm n (mm s C D) B' t j = mm n (mm r A B) B' t j := fun t ht => (mm_congr (m := m) (p := r) (k1.symm.trans h1) (Eqm.refl n r B') t ht j hj)
  have e4 : ∀ t, mm n (mm r A B) B' t j = mm r A (mm n B B') t j := fun t => mm_assoc r n A B B' t j
  have e5 : ∀ t, mm r A (mm n B B') t j = mm r A idm t j := fun t => sum_congr (fun k hk => by rw [h3 k hk j hj])
  rw [e1, show mm m A' (mm s C (mm n D B')) i j = mm m A' A i j from sum_congr (fun t ht => by rw [e2, e3 t ht, e4, e5, mm_id r A t j hj])]
  exact h2 i hi j hj
theorem IsRank.unique {m n r s : Nat} {M : Mat} (h : IsRank m n M r) (k : IsRank m n M s) : r = s := Nat.le_antisymm (h.le_of k) (k.le_of h)
theorem IsRank.le_rows {m n r : Nat} {M : Mat} (h : IsRank m n M r) : r ≤ m := by
  obtain ⟨A, A', B, B', _, h2, _⟩ := h
  exact through_le h2
theorem IsRank.le_cols {m n r : Nat} {M : Mat} (h : IsRank m n M r) : r ≤ n := by
  obtain ⟨A, A', B, B', _, _, h3⟩ := h
  exact through_le h3

/-- Every matrix has one. -/
theorem rank_exists : ∀ (m n : Nat) (M : Mat), ∃ r, IsRank m n M r
  | 0, n, M => ⟨0, M, M, M, M, fun i hi => by omega, fun i hi => by omega, fun i hi => by omega⟩
  | m + 1, n, M => by
    by_cases hz : ∀ j, j < n → M 0 j = 0
    · obtain ⟨r, A, A', B, B', h1, h2, h3⟩ := rank_exists m n (fun i j => M (i + 1) j)
      refine ⟨r, fun i k => match i with | 0 => 0 | i + 1 => A i k, fun k i => match i with | 0 => 0 | i + 1 => A' k i, B, B', fun i hi j hj => ?_, fun i hi j hj => ?_, h3⟩
      · cases i with
        | zero =>
          rw [hz j hj]
          exact (sum_zero (fun k _ => zero_mul _)).symm
        | succ i => exact h1 i (by omega) j hj
      · rw [← h2 i hi j hj]
        show sum (m + 1) _ = _
        rw [sum_front]
        show mul 0 0 ^^^ _ = _
        rw [mul_zero, zero_add]
        rfl
    · obtain ⟨j0, hj0, hne⟩ : ∃ j0, j0 < n ∧ M 0 j0 ≠ 0 := by
        refine Classical.byContradiction fun hc => hz fun j hj => Classical.byContradiction fun he => hc ⟨j, hj, he⟩
      -- the first row, made 1 at j0, is taken away from the others
      obtain ⟨p, hp⟩ : ∃ p : Nat → UInt8, p = fun j => mul (inv (M 0 j0)) (M 0 j) := ⟨_, rfl⟩
      have hp0 : p j0 = 1 := by rw [hp]; exact inv_mul hne
      have hrow : ∀ j, M 0 j = mul (M 0 j0) (p j) := fun j => by rw [hp, ← mul_assoc, mul_inv hne, one_mul]
      obtain ⟨r, A, A', B, B', h1, h2, h3⟩ := rank_exists m n (fun i j => M (i + 1) j ^^^ mul (M (i + 1) j0) (p j))
      -- B has nothing at j0
      have hB : ∀ k, k < r → B k j0 = 0 := fun k hk => by
        have e1 : mm r (mm m A' A) B k j0 = mm m A' (mm r A B) k j0 := mm_assoc m r A' A B k j0
        have e2 : mm r (mm m A' A) B k j0 = B k j0 := (sum_congr (fun t ht => by rw [h2 k hk t ht])).trans (id_mm r B k j0 hk)
        have e3 : mm m A' (mm r A B) k j0 = 0 := sum_zero (fun t ht => by rw [← h1 t ht j0 hj0]; show mul (A' k t) (M (t + 1) j0 ^^^ mul (M (t + 1) j0) (p j0)) = 0; rw [hp0, mul_one, add_self, mul_zero])
        rw [← e2, e1, e3]
      refine ⟨r + 1,
        fun i k => match i, k with | 0, 0 => M 0 j0 | 0, _ + 1 => 0 | i + 1, 0 => M (i + 1) j0 | i + 1, k + 1 => A i k,
        fun k i => match k, i with | 0, 0 => inv (M 0 j0) | 0, _ + 1 => 0 | k + 1, 0 => mul (sum m (fun t => mul (A' k t) (M (t + 1) j0))) (inv (M 0 j0)) | k + 1, i + 1 => A' k i,
        fun k j => match k with | 0 => p j | k + 1 => B k j,
        fun j k => match k with | 0 => (if j = j0 then 1 else 0) | k + 1 => B' j k ^^^ (if j = j0 then sum n (fun t => mul (p t) (B' t k)) else 0),
        fun i hi j hj => ?_, fun i hi j hj => ?_, fun i hi j hj => ?_⟩
      · show _ = sum (r + 1) _
        rw [sum_front]
        cases i with
        | zero =>
          show _ = mul (M 0 j0) (p j) ^^^ sum r (fun k => mul 0 (B k j))
          rw [sum_zero (fun k _ => zero_mul _), add_zero]
          exact hrow j
        | succ i =>
          show _ = mul (M (i + 1) j0) (p j) ^^^ sum r (fun k => mul (A i k) (B k j))
          have h4 : M (i + 1) j ^^^ mul (M (i + 1) j0) (p j) = sum r (fun k => mul (A i k) (B k j)) := h1 i (by omega) j hj
          rw [← h4, add_comm (M (i + 1) j), add_left]
      · show sum (m + 1) _ = _
        rw [sum_front]
        cases i with
        | zero =>
          cases j with
          | zero =>
            show mul (inv (M 0 j0)) (M 0 j0) ^^^ sum m (fun t => mul 0 (M (t + 1) j0)) = _
            rw [sum_zero (fun k _ => zero_mul _), add_zero, inv_mul hne]
            rfl
          | succ j =>
            show mul (inv (M 0 j0)) 0 ^^^ sum m (fun t => mul 0 (A t j)) = _
            rw [sum_zero (fun k _ => zero_mul _), add_zero, mul_zero]
            rfl
        | succ i =>
          cases j with
          | zero =>
            show mul (mul (sum m (fun t => mul (A' i t) (M (t + 1) j0))) (inv (M 0 j0))) (M 0 j0) ^^^ sum m (fun t => mul (A' i t) (M (t + 1) j0)) = _
            rw [mul_assoc, inv_mul hne, mul_one, add_self]
            rfl
          | succ j =>
            show mul (mul (sum m (fun t => mul (A' i t) (M (t + 1) j0))) (inv (M 0 j0))) 0 ^^^ sum m (fun t => mul (A' i t) (A t j)) = _
            rw [mul_zero, zero_add]
            refine (h2 i (by omega) j (by omega)).trans ?_
            simp [idm]
      · cases i with
        | zero =>
          cases j with
          | zero =>
            refine (sum_one (f := fun t => mul (p t) (if t = j0 then 1 else 0)) hj0 (fun t _ ht => by simp only [if_neg ht, mul_zero])).trans ?_
            simp only [if_pos, hp0, mul_one]
            rfl
          | succ j =>
            have e : mm n (fun k j => match k with | 0 => p j | k + 1 => B k j) (fun j k => match k with | 0 => (if j = j0 then 1 else 0) | k + 1 => B' j k ^^^ (if j = j0 then sum n (fun t => mul (p t) (B' t k)) else 0)) 0 (j + 1)
                = sum n (fun t => mul (p t) (B' t j) ^^^ mul (p t) (if t = j0 then sum n (fun t => mul (p t) (B' t j)) else 0)) := sum_congr (fun t _ => mul_add _ _ _)
            rw [e]
            unfold sum
            rw [lsum_add]
            have e2 : lsum (List.range n) (fun t => mul (p t) (if t = j0 then lsum (List.range n) (fun t => mul (p t) (B' t j)) else 0)) = lsum (List.range n) (fun t => mul (p t) (B' t j)) := by
              refine (lsum_one List.nodup_range (List.mem_range.2 hj0) (fun t _ ht => by simp only [if_neg ht, mul_zero])).trans ?_
              simp only [if_pos, hp0, one_mul]
            rw [e2, add_self]
            rfl
        | succ i =>
          cases j with
          | zero =>
            refine (sum_one (f := fun t => mul (B i t) (if t = j0 then 1 else 0)) hj0 (fun t _ ht => by simp only [if_neg ht, mul_zero])).trans ?_
            simp only [if_pos, mul_one, hB i (by omega)]
            rfl
          | succ j =>
            have e : mm n (fun k j => match k with | 0 => p j | k + 1 => B k j) (fun j k => match k with | 0 => (if j = j0 then 1 else 0) | k + 1 => B' j k ^^^ (if j = j0 then sum n (fun t => mul (p t) (B' t k)) else 0)) (i + 1) (j + 1)
                = sum n (fun t => mul (B i t) (B' t j) ^^^ mul (B i t) (if t = j0 then sum n (fun t => mul (p t) (B' t j)) else 0)) := sum_congr (fun t _ => mul_add _ _ _)
            rw [e]
            unfold sum
            rw [lsum_add]
            have e2 : lsum (List.range n) (fun t => mul (B i t) (if t = j0 then lsum (List.range n) (fun t => mul (p t) (B' t j)) else 0)) = 0 := by
              refine (lsum_one List.nodup_range (List.mem_range.2 hj0) (fun t _ ht => by simp only [if_neg ht, mul_zero])).trans ?_
              rw [hB i (by omega), zero_mul]
            rw [e2, add_zero]
            refine (h3 i (by omega) j (by omega)).trans ?_
            simp [idm]

/-- What has something that undoes it loses nothing. -/
theorem inj_of_right {n : Nat} {X Y : Mat} (h : Eqm n n (mm n X Y) idm) (z : Nat → UInt8) (hz : ∀ i, i < n → sum n (fun k => mul (X i k) (z k)) = 0) : ∀ i, i < n → z i = 0 := by
  obtain ⟨c, _, ⟨j, hj, hc⟩, h3⟩ := homog n (fun i k => if k = n then z i else Y i k) (List.range (n + 1)) List.nodup_range (by rw [List.length_range]; omega)
  have h4 : ∀ i, i < n → sum n (fun k => mul (Y i k) (c k)) = mul (z i) (c n) := fun i hi => by
    have h5 := h3 i hi
    change sum (n + 1) _ = 0 at h5
    rw [sum_succ, if_pos rfl] at h5
    rw [← eq_of_add h5]
    exact sum_congr (fun k hk => by rw [if_neg (by omega)])
  have h6 : ∀ t, t < n → c t = 0 := fun t ht => by
    have e1 : mm n (mm n X Y) (fun k _ => c k) t 0 = c t := (sum_congr (fun k hk => by rw [h t ht k hk])).trans (id_mm n (fun k _ => c k) t 0 ht)
    rw [← e1, mm_assoc]
    have e2 : mm n X (mm n Y (fun k _ => c k)) t 0 = sum n (fun k => mul (mul (X t k) (z k)) (c n)) := sum_congr (fun k hk => by rw [show mm n Y (fun k _ => c k) k 0 = mul (z k) (c n) from h4 k hk, mul_assoc])
    rw [e2]
    unfold sum
    rw [lsum_mul_right, show lsum (List.range n) (fun k => mul (X t k) (z k)) = 0 from hz t ht, zero_mul]
  have hcn : c n ≠ 0 := by
    rcases Nat.lt_or_ge j n with hl | hl
    · exact absurd (h6 j hl) hc
    · obtain rfl : j = n := by have := List.mem_range.1 hj; omega
      exact hc
  intro i hi
  have h7 := h4 i hi
  rw [sum_zero (fun k hk => by rw [h6 k hk, mul_zero])] at h7
  exact (mul_eq_zero h7.symm).resolve_right hcn
/-- Square: what turns it back on one side does on the other. -/
theorem one_side {n : Nat} {X Y : Mat} (h : Eqm n n (mm n X Y) idm) : Eqm n n (mm n Y X) idm := fun i hi j hj => by
  refine eq_of_add (inj_of_right h (fun i => mm n Y X i j ^^^ idm i j) (fun t ht => ?_) i hi)
  have e1 : sum n (fun k => mul (X t k) (mm n Y X k j ^^^ idm k j)) = mm n X (mm n Y X) t j ^^^ mm n X idm t j := (sum_congr (fun k _ => mul_add _ _ _)).trans (lsum_add _ _ _)
  rw [e1, ← mm_assoc, mm_id n X t j hj, show mm n (mm n X Y) X t j = X t j from (sum_congr (fun k hk => by rw [h t ht k hk])).trans (id_mm n X t j ht), add_self]

/-- It may be turned back. -/
def Inv (n : Nat) (X Y : Mat) : Prop := Eqm n n (mm n X Y) idm ∧ Eqm n n (mm n Y X) idm
theorem Inv.symm {n : Nat} {X Y : Mat} (h : Inv n X Y) : Inv n Y X := ⟨h.2, h.1⟩
theorem Inv.of {n : Nat} {X Y : Mat} (h : Eqm n n (mm n X Y) idm) : Inv n X Y := ⟨h, one_side h⟩
theorem Inv.unique {n : Nat} {X Y Z : Mat} (h : Inv n X Y) (k : Eqm n n (mm n X Z) idm) : Eqm n n Y Z := fun i hi j hj => by
  have e1 : mm n (mm n Y X) Z i j = Z i j := (sum_congr (fun t ht => by rw [h.2 i hi t ht])).trans (id_mm n Z i j hi)
  have e2 : mm n Y (mm n X Z) i j = Y i j := (sum_congr (fun t ht => by rw [k t ht j hj])).trans (mm_id n Y i j hj)
  rw [← e1, mm_assoc, e2]
/-- What loses nothing may be turned back. -/
theorem inv_of_inj {n : Nat} {X : Mat} (h : ∀ z : Nat → UInt8, (∀ i, i < n → sum n (fun k => mul (X i k) (z k)) = 0) → ∀ i, i < n → z i = 0) : IsRank n n X n ∧ ∃ Y, Inv n X Y := by
  obtain ⟨r, hr⟩ := rank_exists n n X
  have hle := hr.le_rows
  have hge : n ≤ r := by
    refine Classical.byContradiction fun hc => ?_
    obtain ⟨A, A', B, B', h1, _, _⟩ := hr
    obtain ⟨v, _, ⟨j, hj, hv⟩, h3⟩ := homog r B (List.range n) List.nodup_range (by rw [List.length_range]; omega)
    refine hv (h v (fun i hi => ?_) j (List.mem_range.1 hj))
    have e : sum n (fun k => mul (X i k) (v k)) = mm n (mm r A B) (fun k _ => v k) i 0 := sum_congr (fun k hk => by rw [h1 i hi k hk])
    rw [e, mm_assoc]
    exact sum_zero (fun k hk => by rw [show mm n B (fun k _ => v k) k 0 = 0 from h3 k hk, mul_zero])
  obtain rfl : r = n := Nat.le_antisymm hle hge
  refine ⟨hr, ?_⟩
  obtain ⟨A, A', B, B', h1, h2, h3⟩ := hr
  have h4 := one_side h2
  refine ⟨mm r B' A', Inv.of (fun i hi j hj => ?_)⟩
  have e1 : mm r X (mm r B' A') i j = mm r (mm r A B) (mm r B' A') i j := sum_congr (fun k hk => by rw [h1 i hi k hk])
  have e2 : ∀ t, t < r → mm r B (mm r B' A') t j = A' t j := fun t ht => by
    rw [← mm_assoc]
    exact (sum_congr (fun k hk => by rw [h3 t ht k hk])).trans (id_mm r A' t j ht)
  rw [e1, mm_assoc, show mm r A (mm r B (mm r B' A')) i j = mm r A A' i j from sum_congr (fun t ht => by rw [e2 t ht])]
  exact h4 i hi j hj
theorem inj_of_inv {n : Nat} {X Y : Mat} (h : Inv n X Y) (z : Nat → UInt8) (hz : ∀ i, i < n → sum n (fun k => mul (X i k) (z k)) = 0) : ∀ i, i < n → z i = 0 := inj_of_right h.1 z hz
theorem rank_of_inv {n : Nat} {X Y : Mat} (h : Inv n X Y) : IsRank n n X n := (inv_of_inj (inj_of_inv h)).1
theorem inv_of_rank {n : Nat} {X : Mat} (h : IsRank n n X n) : ∃ Y, Inv n X Y := by
  obtain ⟨A, A', B, B', h1, h2, h3⟩ := h
  refine (inv_of_inj (fun z hz => ?_)).2
  have hA : Inv n A A' := Inv.of (one_side h2)
  have hB : Inv n B B' := Inv.of h3
  have e : ∀ i, i < n → sum n (fun k => mul (A i k) (mm n B (fun k _ => z k) k 0)) = 0 := fun i hi => by
    rw [← hz i hi]
    have e1 : sum n (fun k => mul (X i k) (z k)) = mm n (mm n A B) (fun k _ => z k) i 0 := sum_congr (fun k hk => by rw [h1 i hi k hk])
    rw [e1, mm_assoc]
    rfl
  exact inj_of_inv hB z (inj_of_inv hA (fun k => mm n B (fun k _ => z k) k 0) e)

/-- What is multiplied by one that may be turned back has as many. -/
theorem IsRank.by_inv {m n r : Nat} {M P Q : Mat} (h : IsRank m n M r) (hP : Inv m P Q) : IsRank m n (mm m P M) r := by
  obtain ⟨A, A', B, B', h1, h2, h3⟩ := h
  refine ⟨mm m P A, mm m A' Q, B, B', fun i hi j hj => ?_, fun i hi j hj => ?_, h3⟩
  · rw [mm_assoc]
    exact sum_congr (fun k hk => by rw [h1 k hk j hj])
  · rw [mm_assoc, ← h2 i hi j hj]
    refine sum_congr (fun k hk => ?_)
    rw [← mm_assoc, show mm m (mm m Q P) A k j = A k j from (sum_congr (fun t ht => by rw [hP.2 k hk t ht])).trans (id_mm m A k j hk)]
theorem IsRank.of_inv {m n r : Nat} {M P Q : Mat} (h : IsRank m n (mm m P M) r) (hP : Inv m P Q) : IsRank m n M r := by
  refine (h.by_inv hP.symm).congr (fun i hi j hj => ?_)
  rw [← mm_assoc]
  exact (sum_congr (fun t ht => by rw [hP.2 i hi t ht])).trans (id_mm m M i j hi)
/-- Rows of which none hangs on others, and rows of 0 behind them. -/
theorem rank_of_rows {m n r : Nat} {E : Mat} (hr : r ≤ m) (hz : ∀ i, r ≤ i → i < m → ∀ j, j < n → E i j = 0) (hi : ∀ y : Nat → UInt8, (∀ j, j < n → sum r (fun i => mul (y i) (E i j)) = 0) → ∀ i, i < r → y i = 0) : IsRank m n E r := by
  obtain ⟨s, A, A', B, B', h1, h2, h3⟩ := rank_exists r n E
  have hsr : s ≤ r := through_le h2
  have hrs : r ≤ s := by
    refine Classical.byContradiction fun hc => ?_
    obtain ⟨y, _, ⟨t, ht, hy⟩, h4⟩ := homog s (fun k i => A i k) (List.range r) List.nodup_range (by rw [List.length_range]; omega)
    refine hy (hi y (fun j hj => ?_) t (List.mem_range.1 ht))
    have e1 : sum r (fun i => mul (y i) (E i j)) = mm r (fun _ i => y i) (mm s A B) 0 j := sum_congr (fun i hi => by rw [h1 i hi j hj])
    rw [e1, ← mm_assoc]
    refine sum_zero (fun k hk => ?_)
    have e2 : mm r (fun _ i => y i) A 0 k = 0 := (sum_congr (fun i _ => mul_comm _ _)).trans (h4 k hk)
    rw [e2, zero_mul]
  obtain rfl : s = r := Nat.le_antisymm hsr hrs
  have h4 := one_side h2
  refine ⟨idm, idm, E, mm s B' A', fun i hi j hj => ?_, fun i hi j hj => ?_, fun i hi j hj => ?_⟩
  · rcases Nat.lt_or_ge i s with h | h
    · exact (id_mm s E i j h).symm
    · rw [hz i h hi j hj]
      exact (sum_zero (fun k hk => by simp [idm, show ¬ i = k by omega, zero_mul])).symm
  · exact id_mm m idm i j (by omega)
  · have e1 : mm n E (mm s B' A') i j = mm n (mm s A B) (mm s B' A') i j := sum_congr (fun k hk => by rw [h1 i hi k hk])
    have e2 : ∀ t, t < s → mm n B (mm s B' A') t j = A' t j := fun t ht => by
      rw [← mm_assoc]
      exact (sum_congr (fun k hk => by rw [h3 t ht k hk])).trans (id_mm s A' t j ht)
    rw [e1, mm_assoc, show mm s A (mm n B (mm s B' A')) i j = mm s A A' i j from sum_congr (fun t ht => by rw [e2 t ht])]
    exact h4 i hi j hj
/-- Stairs: each row begins behind the one ahead, and not with 0. -/
theorem rank_of_stairs {m n r : Nat} {E : Mat} (c : Nat → Nat) (hr : r ≤ m) (hz : ∀ i, r ≤ i → i < m → ∀ j, j < n → E i j = 0) (hc : ∀ i, i < r → c i < n ∧ E i (c i) ≠ 0) (hb : ∀ i k, i < k → k < r → E k (c i) = 0) : IsRank m n E r := by
  refine rank_of_rows hr hz (fun y hy => ?_)
  intro i
  induction i using Nat.strongRecOn with
  | ind i ih =>
    intro hi
    have h := hy (c i) (hc i hi).1
    rw [sum_one (f := fun k => mul (y k) (E k (c i))) hi (fun k hk hne => ?_)] at h
    · exact (mul_eq_zero h).resolve_right (hc i hi).2
    · rcases Nat.lt_or_ge k i with hl | hl
      · show mul (y k) (E k (c i)) = 0
        rw [ih k hl hk, zero_mul]
      · show mul (y k) (E k (c i)) = 0
        rw [hb i k (by omega) hk, mul_zero]
end Go.Proofs.Ytpbkabgjpieggaa.Gf


namespace Go.Proofs.Ytpbkabgjpieggaa.Gf

instance : Std.Associative (α := UInt8) (· ^^^ ·) := ⟨add_assoc⟩
instance : Std.Commutative (α := UInt8) (· ^^^ ·) := ⟨add_comm⟩

/-- Powers. -/
def pw (a : UInt8) : Nat → UInt8
  | 0 => 1
  | n + 1 => mul (pw a n) a
theorem pw_toNat (a : UInt8) : ∀ n, (pw a n).toNat = gpow a.toNat n
  | 0 => rfl
  | n + 1 => by rw [pw, mul_toNat, pw_toNat a n]; rfl
theorem pw_add (a : UInt8) (n : Nat) : ∀ m, pw a (n + m) = mul (pw a n) (pw a m)
  | 0 => (mul_one _).symm
  | m + 1 => by rw [Nat.add_succ, pw, pw, pw_add a n m, mul_assoc]
theorem pw_ne {a : UInt8} (h : a ≠ 0) : ∀ n, pw a n ≠ 0
  | 0 => one_ne
  | n + 1 => mul_ne (pw_ne h n) h
theorem pw_zero : ∀ n, 0 < n → pw 0 n = 0
  | _ + 1, _ => mul_zero _
theorem pw_255 {a : UInt8} (h : a ≠ 0) : pw a 255 = 1 := UInt8.toNat_inj.1 (by rw [pw_toNat]; exact gpow_255 _ (lt256 a) (toNat_ne h))
theorem pw_one_left : ∀ n, pw 1 n = 1
  | 0 => rfl
  | n + 1 => by rw [pw, pw_one_left n, mul_one]
theorem pw_mul (a : UInt8) (n : Nat) : ∀ m, pw a (n * m) = pw (pw a n) m
  | 0 => rfl
  | m + 1 => by rw [Nat.mul_succ, pw_add, pw_mul a n m, pw]
theorem pw_mod {a : UInt8} (h : a ≠ 0) (n : Nat) : pw a (n % 255) = pw a n := by
  have e : n = 255 * (n / 255) + n % 255 := by omega
  conv => rhs; rw [e]
  rw [pw_add, pw_mul, pw_255 h, pw_one_left, one_mul]
theorem pw_succ_left (a : UInt8) (n : Nat) : pw a (n + 1) = mul a (pw a n) := mul_comm _ _
theorem pw_inv {a : UInt8} (h : a ≠ 0) (n : Nat) : pw (inv a) n = inv (pw a n) := by
  refine inv_uniq ?_
  induction n with
  | zero => exact mul_one 1
  | succ n ih => rw [pw, pw, mul_assoc, ← mul_assoc a, mul_comm a, mul_assoc (pw (inv a) n), mul_inv h, mul_one, ih]

/-- A polynomial's value: the first number is that of x to the power of 0. -/
def ev : List UInt8 → UInt8 → UInt8
  | [], _ => 0
  | c :: p, x => c ^^^ mul x (ev p x)
theorem ev_sum : ∀ (p : List UInt8) (x : UInt8), ev p x = sum p.length (fun i => mul (p.getD i 0) (pw x i))
  | [], _ => rfl
  | c :: p, x => by
    rw [ev, ev_sum p x, List.length_cons, sum_front]
    show c ^^^ mul x (lsum _ _) = mul c 1 ^^^ lsum _ _
    rw [mul_one, ← lsum_mul]
    congr 1
    refine lsum_congr (fun i _ => ?_)
    rw [pw_succ_left, ← mul_assoc, mul_comm x, mul_assoc]
    rfl
theorem ev_append (x : UInt8) (q : List UInt8) : ∀ p, ev (p ++ q) x = ev p x ^^^ mul (pw x p.length) (ev q x)
  | [] => by rw [List.nil_append, ev, zero_add, List.length_nil, pw, one_mul]
  | c :: p => by rw [List.cons_append, ev, ev, ev_append x q p, mul_add, List.length_cons, pw_succ_left, mul_assoc, add_assoc]
theorem ev_scale (c x : UInt8) : ∀ p : List UInt8, ev (p.map (fun a => mul a c)) x = mul (ev p x) c
  | [] => (zero_mul c).symm
  | a :: p => by rw [List.map_cons, ev, ev, ev_scale c x p, add_mul, mul_assoc]
/-- The sum, as far as the longer one goes. -/
def padd : List UInt8 → List UInt8 → List UInt8
  | [], q => q
  | p, [] => p
  | a :: p, b :: q => (a ^^^ b) :: padd p q
theorem padd_length : ∀ p q : List UInt8, (padd p q).length = max p.length q.length
  | [], q => by simp [padd]
  | a :: p, [] => by simp [padd]
  | a :: p, b :: q => by rw [padd, List.length_cons, padd_length p q, List.length_cons, List.length_cons]; omega
theorem padd_get : ∀ (p q : List UInt8) (i : Nat), (padd p q).getD i 0 = p.getD i 0 ^^^ q.getD i 0
  | [], q, i => by simp [padd]
  | a :: p, [], i => by simp [padd]
  | a :: p, b :: q, 0 => rfl
  | a :: p, b :: q, i + 1 => padd_get p q i
theorem ev_padd (x : UInt8) : ∀ p q : List UInt8, ev (padd p q) x = ev p x ^^^ ev q x
  | [], q => by rw [padd, ev, zero_add]
  | a :: p, [] => by simp [padd, ev]
  | a :: p, b :: q => by rw [padd, ev, ev, ev, ev_padd x p q, mul_add, add_four]

theorem ev_zero {p : List UInt8} (hp : ∀ c ∈ p, c = 0) (x : UInt8) : ev p x = 0 := by
  induction p with
  | nil => rfl
  | cons c p ih => rw [ev, hp c (List.mem_cons_self ..), ih (fun d hd => hp d (List.mem_cons_of_mem _ hd)), mul_zero, add_zero]
/-- What is left when a root is taken out. -/
def quo (a : UInt8) : List UInt8 → List UInt8
  | [] => []
  | d :: p => ev (d :: p) a :: quo a p
theorem quo_length (a : UInt8) : ∀ p, (quo a p).length = p.length
  | [] => rfl
  | d :: p => by rw [quo, List.length_cons, quo_length a p, List.length_cons]
theorem quo_ev (a x : UInt8) : ∀ (p : List UInt8), mul x (ev p x) ^^^ mul a (ev p a) = mul (x ^^^ a) (ev (quo a p) x)
  | [] => by rw [quo, ev, ev, mul_zero, mul_zero, mul_zero, add_zero]
  | d :: p => by
    rw [quo, show ev (ev (d :: p) a :: quo a p) x = ev (d :: p) a ^^^ mul x (ev (quo a p) x) from rfl, mul_add, ← mul_assoc (x ^^^ a), mul_comm (x ^^^ a) x, mul_assoc x, ← quo_ev a x p, ev, ev]
    simp only [mul_add, add_mul]
    have e : ∀ xd xxp ad aap xap : UInt8, (xd ^^^ xxp) ^^^ (ad ^^^ aap) = (xd ^^^ ad ^^^ (xap ^^^ aap)) ^^^ (xxp ^^^ xap) := fun xd xxp ad aap xap => by
      have e1 : (xd ^^^ ad ^^^ (xap ^^^ aap)) ^^^ (xxp ^^^ xap) = ((xd ^^^ xxp) ^^^ (ad ^^^ aap)) ^^^ (xap ^^^ xap) := by ac_rfl
      rw [e1, add_self, add_zero]
    exact e _ _ _ _ _
theorem quo_zero (a : UInt8) : ∀ p : List UInt8, (∀ c ∈ quo a p, c = 0) → ∀ c ∈ p, c = 0
  | [], _ => fun c hc => by cases hc
  | d :: p, h => by
    have hp := quo_zero a p (fun c hc => h c (List.mem_cons_of_mem _ hc))
    have h0 : ev p a = 0 := ev_zero hp a
    have h1 : ev (d :: p) a = 0 := h _ (List.mem_cons_self ..)
    rw [ev, h0, mul_zero, add_zero] at h1
    intro c hc
    rcases List.mem_cons.1 hc with rfl | hc
    · exact h1
    · exact hp c hc
/-- With as many roots as numbers, all are 0. -/
theorem roots : ∀ (xs p : List UInt8), xs.Nodup → p.length ≤ xs.length → (∀ x ∈ xs, ev p x = 0) → ∀ c ∈ p, c = 0
  | _, [], _, _, _ => fun c hc => by cases hc
  | [], c :: p, _, hl, _ => by simp at hl
  | a :: xs, c :: p, hn, hl, h => by
    rw [List.nodup_cons] at hn
    have ha := h a (List.mem_cons_self ..)
    have hq := roots xs (quo a p) hn.2 (by rw [quo_length]; simp at hl; omega) (fun x hx => by
      have hx0 := h x (List.mem_cons_of_mem _ hx)
      have e := quo_ev a x p
      have e2 : mul x (ev p x) ^^^ mul a (ev p a) = ev (c :: p) x ^^^ ev (c :: p) a := by
        rw [ev, ev]
        have e3 : (c ^^^ mul x (ev p x)) ^^^ (c ^^^ mul a (ev p a)) = (c ^^^ c) ^^^ (mul x (ev p x) ^^^ mul a (ev p a)) := add_four _ _ _ _
        rw [e3, add_self, zero_add]
      rw [e2, hx0, ha, add_zero] at e
      exact (mul_eq_zero e.symm).resolve_left (add_ne (fun e => hn.1 (e ▸ hx))))
    have hp := quo_zero a p hq
    have h0 : ev p a = 0 := ev_zero hp a
    rw [ev, h0, mul_zero, add_zero] at ha
    intro d hd
    rcases List.mem_cons.1 hd with rfl | hd
    · exact ha
    · exact hp d hd

theorem cross (x x0 y y0 : UInt8) : mul (x ^^^ y0) (x0 ^^^ y) ^^^ mul (x0 ^^^ y0) (x ^^^ y) = mul (x ^^^ x0) (y ^^^ y0) := by
  simp only [mul_add, add_mul]
  rw [mul_comm x0 x, mul_comm y0 x, mul_comm y0 x0]
  have e : ∀ p q r s u v : UInt8, (p ^^^ r ^^^ (q ^^^ s)) ^^^ (p ^^^ v ^^^ (u ^^^ s)) = q ^^^ u ^^^ (v ^^^ r) := fun p q r s u v => by
    have e1 : (p ^^^ r ^^^ (q ^^^ s)) ^^^ (p ^^^ v ^^^ (u ^^^ s)) = (p ^^^ p) ^^^ ((s ^^^ s) ^^^ (q ^^^ u ^^^ (v ^^^ r))) := by ac_rfl
    rw [e1, add_self, add_self, zero_add, zero_add]
  exact e _ _ _ _ _ _
theorem frac (x x0 y y0 : UInt8) (h1 : x ≠ y) (h2 : x0 ≠ y) : mul (x ^^^ y0) (inv (x ^^^ y)) ^^^ mul (x0 ^^^ y0) (inv (x0 ^^^ y)) = mul (mul (x ^^^ x0) (mul (y ^^^ y0) (inv (x0 ^^^ y)))) (inv (x ^^^ y)) := by
  have n1 := add_ne h1
  have n2 := add_ne h2
  refine mul_cancel n1 (mul_cancel n2 ?_)
  have e1 : mul (x0 ^^^ y) (mul (x ^^^ y) (mul (x ^^^ y0) (inv (x ^^^ y)) ^^^ mul (x0 ^^^ y0) (inv (x0 ^^^ y)))) = mul (x ^^^ y0) (x0 ^^^ y) ^^^ mul (x0 ^^^ y0) (x ^^^ y) := by
    rw [mul_add, mul_add]
    congr 1
    · rw [← mul_assoc (x ^^^ y), mul_comm (x ^^^ y), mul_assoc (x ^^^ y0), mul_inv n1, mul_one, mul_comm]
    · rw [mul_comm (x ^^^ y), mul_assoc, ← mul_assoc (x0 ^^^ y), mul_comm (x0 ^^^ y), mul_assoc (x0 ^^^ y0), mul_comm (inv (x0 ^^^ y)), ← mul_assoc (x0 ^^^ y), mul_comm (x0 ^^^ y) (x ^^^ y), mul_assoc (x ^^^ y), mul_inv n2, mul_one]
  have e2 : mul (x0 ^^^ y) (mul (x ^^^ y) (mul (mul (x ^^^ x0) (mul (y ^^^ y0) (inv (x0 ^^^ y)))) (inv (x ^^^ y)))) = mul (x ^^^ x0) (y ^^^ y0) := by
    rw [← mul_assoc (x ^^^ y), mul_comm (x ^^^ y), mul_assoc _ (x ^^^ y), mul_inv n1, mul_one, ← mul_assoc (x ^^^ x0), ← mul_assoc (x0 ^^^ y), mul_comm (x0 ^^^ y), mul_assoc _ (x0 ^^^ y), mul_inv n2, mul_one]
  rw [e1, e2, cross]
/-- Cauchy: sums of parts by unlike places, that are 0 at as many others, are of parts that are 0. -/
theorem cauchy : ∀ (ys xs : List UInt8) (w : UInt8 → UInt8), xs.Nodup → ys.Nodup → xs.length = ys.length → (∀ x ∈ xs, ∀ y ∈ ys, x ≠ y) → (∀ x ∈ xs, lsum ys (fun y => mul (w y) (inv (x ^^^ y))) = 0) → ∀ y ∈ ys, w y = 0
  | [], _, _, _, _, _, _, _ => fun y hy => by cases hy
  | y0 :: ys, [], _, _, _, hl, _, _ => by simp at hl
  | y0 :: ys, x0 :: xs, w, hx, hy, hl, hne, h => by
    rw [List.nodup_cons] at hx hy
    have h0 := h x0 (List.mem_cons_self ..)
    have n0 : x0 ≠ y0 := hne x0 (List.mem_cons_self ..) y0 (List.mem_cons_self ..)
    rw [lsum_cons] at h0
    have hw := cauchy ys xs (fun y => mul (w y) (mul (y ^^^ y0) (inv (x0 ^^^ y)))) hx.2 hy.2 (by simpa using hl) (fun x h1 y h2 => hne x (List.mem_cons_of_mem _ h1) y (List.mem_cons_of_mem _ h2)) (fun x hxm => by
      have h1 := h x (List.mem_cons_of_mem _ hxm)
      have n1 : x ≠ y0 := hne x (List.mem_cons_of_mem _ hxm) y0 (List.mem_cons_self ..)
      have nx : x ≠ x0 := fun e => hx.1 (e ▸ hxm)
      rw [lsum_cons] at h1
      refine mul_cancel (add_ne nx) ?_
      rw [mul_zero, ← lsum_mul]
      have e1 : mul (x ^^^ y0) (lsum ys (fun y => mul (w y) (inv (x ^^^ y)))) = w y0 := by
        rw [← eq_of_add h1, ← mul_assoc, mul_comm (x ^^^ y0), mul_assoc, mul_inv (add_ne n1), mul_one]
      have e0 : mul (x0 ^^^ y0) (lsum ys (fun y => mul (w y) (inv (x0 ^^^ y)))) = w y0 := by
        rw [← eq_of_add h0, ← mul_assoc, mul_comm (x0 ^^^ y0), mul_assoc, mul_inv (add_ne n0), mul_one]
      have e2 : mul (x ^^^ y0) (lsum ys (fun y => mul (w y) (inv (x ^^^ y)))) ^^^ mul (x0 ^^^ y0) (lsum ys (fun y => mul (w y) (inv (x0 ^^^ y)))) = 0 := by rw [e1, e0, add_self]
      rw [← lsum_mul, ← lsum_mul, ← lsum_add] at e2
      rw [← e2]
      refine lsum_congr (fun y hym => ?_)
      have f := frac x x0 y y0 (hne x (List.mem_cons_of_mem _ hxm) y (List.mem_cons_of_mem _ hym)) (hne x0 (List.mem_cons_self ..) y (List.mem_cons_of_mem _ hym))
      have l1 : mul (x ^^^ y0) (mul (w y) (inv (x ^^^ y))) ^^^ mul (x0 ^^^ y0) (mul (w y) (inv (x0 ^^^ y))) = mul (w y) (mul (x ^^^ y0) (inv (x ^^^ y)) ^^^ mul (x0 ^^^ y0) (inv (x0 ^^^ y))) := by
        rw [mul_add, ← mul_assoc (x ^^^ y0), mul_comm (x ^^^ y0), mul_assoc (w y), ← mul_assoc (x0 ^^^ y0), mul_comm (x0 ^^^ y0), mul_assoc (w y)]
      rw [l1, f, mul_assoc, ← mul_assoc (x ^^^ x0) (w y), mul_comm (x ^^^ x0) (w y), mul_assoc (w y), ← mul_assoc (x ^^^ x0), mul_assoc])
    have hz : ∀ y ∈ ys, w y = 0 := fun y hym => by
      have h1 := hw y hym
      have n1 : y ≠ y0 := fun e => hy.1 (e ▸ hym)
      have n2 : x0 ≠ y := hne x0 (List.mem_cons_self ..) y (List.mem_cons_of_mem _ hym)
      exact (mul_eq_zero h1).resolve_right (mul_ne (add_ne n1) (inv_ne (add_ne n2)))
    rw [lsum_zero (fun y hym => by rw [hz y hym, zero_mul]), add_zero] at h0
    intro y hym
    rcases List.mem_cons.1 hym with rfl | hym
    · exact (mul_eq_zero h0).resolve_right (inv_ne (add_ne n0))
    · exact hz y hym
end Go.Proofs.Ytpbkabgjpieggaa.Gf


namespace Go.Proofs.Ytpbkabgjpieggaa


/-- What Power tells. -/
def powL (a : UInt8) (n : Int) : UInt8 := if n < 0 then (if a = 0 then 0 else Gf.pw (Gf.inv a) (n.natAbs % 255)) else if n = 0 then 1 else if a = 0 then 0 else Gf.pw a (n.natAbs % 255)
theorem tmod_neg {n : Int} (h : n < 0) : n.tmod 255 = -((n.natAbs % 255 : Nat) : Int) := by
  obtain ⟨m, rfl⟩ : ∃ m : Nat, n = -(m : Int) := ⟨n.natAbs, by omega⟩
  rw [Int.neg_tmod, Int.tmod_eq_emod_of_nonneg (Int.natCast_nonneg _)]
  simp
theorem tmod_pos {n : Int} (h : 0 ≤ n) : n.tmod 255 = ((n.natAbs % 255 : Nat) : Int) := by
  rw [Int.tmod_eq_emod_of_nonneg h]
  omega

theorem powL_nat (a : UInt8) (k : Nat) (hk : k < 255) (h : a ≠ 0) : powL a (k : Int) = Gf.pw a k := by
  rw [powL, if_neg (by omega)]
  by_cases h0 : k = 0
  · rw [if_pos (by omega), h0]
    rfl
  · rw [if_neg (by omega), if_neg h, Int.natAbs_natCast, Nat.mod_eq_of_lt hk]
/-- What Log tells. -/
def logL (a : UInt8) : Int := if a = 0 then -1 else (Gf.glog a.toNat : Int)
theorem pw2_toNat (k : Nat) : (Gf.pw 2 k).toNat = Gf.gpow 2 k := Gf.pw_toNat 2 k

/-- A polynomial's value, as far as k. -/
def evTo (p : List UInt8) (x : UInt8) (k : Nat) : UInt8 := Gf.sum k (fun i => Gf.mul (p.getD i 0) (Gf.pw x i))
theorem powL_any (x : UInt8) (k : Nat) (hk : k < 255) : powL x (k : Int) = Gf.pw x k := by
  by_cases h : x = 0
  · subst h
    rw [powL, if_neg (by omega)]
    by_cases h0 : k = 0
    · rw [if_pos (by omega), h0]
      rfl
    · rw [if_neg (by omega), if_pos rfl, Gf.pw_zero k (by omega)]
  · exact powL_nat x k hk h

theorem log_neg (a : UInt8) (h : a ≠ 0) : 0 ≤ logL a ∧ logL a < 255 := by
  rw [logL, if_neg h]
  have := (Gf.glog_spec a.toNat (Gf.lt256 a) (Gf.toNat_ne h)).1
  omega
theorem exp_log (a : UInt8) (h : a ≠ 0) : powL 2 (logL a) = a := by
  obtain ⟨h1, h2, _⟩ := Gf.glog_spec a.toNat (Gf.lt256 a) (Gf.toNat_ne h)
  rw [logL, if_neg h, powL_nat 2 _ h1 (by decide)]
  exact UInt8.toNat_inj.1 (by rw [pw2_toNat]; exact h2)
theorem div_mul (a b : UInt8) (h : a ≠ 0) : Gf.mul (Gf.mul a b) (Gf.inv a) = b := by rw [Gf.mul_comm a b, Gf.mul_assoc, Gf.mul_inv h, Gf.mul_one]

theorem powL_pw {a : UInt8} (h : a ≠ 0) (k : Nat) : powL a (k : Int) = Gf.pw a k := by
  rw [powL, if_neg (by omega)]
  by_cases h0 : k = 0
  · rw [if_pos (by omega), h0]
    rfl
  · rw [if_neg (by omega), if_neg h, Int.natAbs_natCast, Gf.pw_mod h]
theorem powL_neg {a : UInt8} (h : a ≠ 0) (k : Nat) : powL a (-(k : Int)) = Gf.inv (Gf.pw a k) := by
  by_cases h0 : k = 0
  · subst h0
    have : Gf.inv 1 = 1 := (Gf.inv_uniq (Gf.mul_one 1)).symm
    rw [show (-((0 : Nat) : Int)) = 0 by omega, powL, if_neg (by omega), if_pos rfl]
    exact this.symm
  · rw [powL, if_pos (by omega), if_neg h, Int.natAbs_neg, Int.natAbs_natCast, Gf.pw_mod (Gf.inv_ne h), Gf.pw_inv h]
theorem powL_zero (n : Int) (h : n ≠ 0) : powL 0 n = 0 := by
  by_cases hneg : n < 0
  · rw [powL, if_pos hneg, if_pos rfl]
  · rw [powL, if_neg hneg, if_neg h, if_pos rfl]
theorem powL_at (a : UInt8) : powL a 0 = 1 := by rw [powL, if_neg (by omega), if_pos rfl]

end Go.Proofs.Ytpbkabgjpieggaa


namespace Go.Proofs.Ytpbkabgjpieggaa

/-- A matrix's number. -/
def at2 (M : List (List UInt8)) (i j : Nat) : UInt8 := (M.getD i []).getD j 0
theorem at2_of {M : List (List UInt8)} {i j : Nat} {r : List UInt8} {u : UInt8} (hr : M[i]? = some r) (hu : r[j]? = some u) : at2 M i j = u := by
  simp [at2, List.getD_eq_getElem?_getD, hr, hu]
/-- A row's number at col is not 0. -/
def pivP (col : Nat) (r : List UInt8) : Bool := r.getD col 0 != 0
/-- A row with the multiple of the leading one added that makes its number at col 0. -/
def elim (lead : List UInt8) (col : Nat) (r : List UInt8) : List UInt8 := Gf.padd r (lead.map (fun y => Gf.mul y (r.getD col 0)))
/-- The first k rows are done, but for the leading one. -/
def sweptTo (lead : List UInt8) (col d k : Nat) (M : List (List UInt8)) : List (List UInt8) := M.mapIdx (fun i r => if i < k ∧ i ≠ d then elim lead col r else r)
/-- The leading row, from one whose number at col is not 0. -/
def leadOf (col : Nat) (r : List UInt8) : List UInt8 := r.map (fun y => Gf.mul y (Gf.inv (r.getD col 0)))
/-- Row p is put to place d, as the leading one. -/
def swapped (M : List (List UInt8)) (d p : Nat) (lead : List UInt8) : List (List UInt8) := (M.set p (M.getD d [])).set d lead
/-- One column. -/
def colStep (col : Nat) (M : List (List UInt8)) (d : Nat) : List (List UInt8) × Nat :=
  if (M.drop d).any (pivP col) then
    (sweptTo (leadOf col (M.getD (d + (M.drop d).findIdx (pivP col)) [])) col d M.length (swapped M d (d + (M.drop d).findIdx (pivP col)) (leadOf col (M.getD (d + (M.drop d).findIdx (pivP col)) []))), d + 1)
  else (M, d)
/-- So many columns. -/
def sweepTo (M : List (List UInt8)) : Nat → List (List UInt8) × Nat
  | 0 => (M, 0)
  | k + 1 => colStep k (sweepTo M k).1 (sweepTo M k).2

/-- n rows of L numbers. -/
def Lev (n L : Nat) (M : List (List UInt8)) : Prop := M.length = n ∧ ∀ r ∈ M, r.length = L
theorem Lev.at {n L : Nat} {M : List (List UInt8)} (h : Lev n L M) {i : Nat} {r : List UInt8} (hr : M[i]? = some r) : r.length = L := h.2 r (List.mem_of_getElem? hr)
theorem Lev.get {n L : Nat} {M : List (List UInt8)} (h : Lev n L M) {i : Nat} (hi : i < n) : ∃ r, M[i]? = some r ∧ M.getD i [] = r ∧ r.length = L := by
  have hr : M[i]? = some (M[i]'(by rw [h.1]; exact hi)) := List.getElem?_eq_getElem _
  exact ⟨_, hr, by simp [List.getD_eq_getElem?_getD, hr], h.at hr⟩
theorem Lev.set {n L : Nat} {M : List (List UInt8)} (h : Lev n L M) (i : Nat) {r : List UInt8} (hr : r.length = L) : Lev n L (M.set i r) := by
  refine ⟨by simpa using h.1, fun s hs => ?_⟩
  rcases List.mem_or_eq_of_mem_set hs with h1 | h1
  · exact h.2 s h1
  · rw [h1]; exact hr
theorem elim_length {lead r : List UInt8} {L col : Nat} (h1 : lead.length = L) (h2 : r.length = L) : (elim lead col r).length = L := by
  rw [elim, Gf.padd_length, List.length_map, h1, h2]
  exact Nat.max_self L
theorem sweptTo_length (lead : List UInt8) (col d k : Nat) (M : List (List UInt8)) : (sweptTo lead col d k M).length = M.length := by simp [sweptTo]
theorem sweptTo_at (lead : List UInt8) (col d k : Nat) (M : List (List UInt8)) (i : Nat) : (sweptTo lead col d k M)[i]? = M[i]?.map (fun r => if i < k ∧ i ≠ d then elim lead col r else r) := by simp [sweptTo]
theorem sweptTo_zero (lead : List UInt8) (col d : Nat) (M : List (List UInt8)) : sweptTo lead col d 0 M = M := by
  apply List.ext_getElem?
  intro i
  rw [sweptTo_at]
  cases M[i]? <;> simp
theorem sweptTo_skip (lead : List UInt8) (col k : Nat) (M : List (List UInt8)) : sweptTo lead col k (k + 1) M = sweptTo lead col k k M := by
  apply List.ext_getElem?
  intro i
  rw [sweptTo_at, sweptTo_at]
  cases M[i]? with
  | none => rfl
  | some r =>
    simp only [Option.map_some]
    by_cases h : i < k ∧ i ≠ k
    · rw [if_pos h, if_pos (by omega)]
    · rw [if_neg h, if_neg (by omega)]
theorem sweptTo_step (lead : List UInt8) (col d k : Nat) (M : List (List UInt8)) (hk : k ≠ d) {r : List UInt8} (hr : M[k]? = some r) : (sweptTo lead col d k M).set k (elim lead col r) = sweptTo lead col d (k + 1) M := by
  have hlt := (List.getElem?_eq_some_iff.1 hr).1
  apply List.ext_getElem?
  intro i
  rw [sweptTo_at]
  by_cases hi : k = i
  · subst hi
    rw [List.getElem?_set_self (by rw [sweptTo_length]; exact hlt), hr]
    simp [hk]
  · rw [List.getElem?_set_ne hi, sweptTo_at]
    cases M[i]? with
    | none => rfl
    | some s =>
      simp only [Option.map_some]
      by_cases h : i < k ∧ i ≠ d
      · rw [if_pos h, if_pos (by omega)]
      · rw [if_neg h, if_neg (by omega)]
theorem Lev.swept {n L : Nat} {M : List (List UInt8)} (h : Lev n L M) {lead : List UInt8} (hl : lead.length = L) (col d k : Nat) : Lev n L (sweptTo lead col d k M) := by
  refine ⟨by rw [sweptTo_length]; exact h.1, fun r hr => ?_⟩
  obtain ⟨i, hi⟩ := List.getElem?_of_mem hr
  rw [sweptTo_at] at hi
  cases hm : M[i]? with
  | none => rw [hm] at hi; cases hi
  | some s =>
    rw [hm] at hi
    simp only [Option.map_some] at hi
    cases hi
    split
    · exact elim_length hl (h.at hm)
    · exact h.at hm
theorem leadOf_length (col : Nat) (r : List UInt8) : (leadOf col r).length = r.length := by simp [leadOf]
theorem piv_lt {M : List (List UInt8)} {d col : Nat} (h : (M.drop d).any (pivP col) = true) : d + (M.drop d).findIdx (pivP col) < M.length := by
  have h1 : (M.drop d).findIdx (pivP col) < (M.drop d).length := List.findIdx_lt_length.2 (List.any_eq_true.1 h)
  rw [List.length_drop] at h1
  omega
theorem Lev.swapped {n L : Nat} {M : List (List UInt8)} (h : Lev n L M) {d p : Nat} (hd : d < n) {lead : List UInt8} (hl : lead.length = L) : Lev n L (swapped M d p lead) := by
  obtain ⟨r, _, h2, h3⟩ := h.get hd
  unfold Proofs.Ytpbkabgjpieggaa.swapped
  rw [h2]
  exact (h.set p h3).set d hl
theorem Lev.col {n L : Nat} {M : List (List UInt8)} (h : Lev n L M) (col d : Nat) : Lev n L (colStep col M d).1 := by
  unfold colStep
  split
  · rename_i hany
    have hp := piv_lt hany
    have hdn : d < n := by rw [← h.1]; omega
    obtain ⟨r, _, h2, h3⟩ := h.get (show d + (M.drop d).findIdx (pivP col) < n by rw [← h.1]; exact hp)
    have hl : (leadOf col (M.getD (d + (M.drop d).findIdx (pivP col)) [])).length = L := by rw [leadOf_length, h2, h3]
    exact (h.swapped hdn hl).swept hl _ _ _
  · exact h
theorem sweep_lev {n L : Nat} {M : List (List UInt8)} (h : Lev n L M) : ∀ k, Lev n L (sweepTo M k).1
  | 0 => h
  | k + 1 => (sweep_lev h k).col _ _
theorem col_done {n L : Nat} {M : List (List UInt8)} (h : Lev n L M) {col d : Nat} (hd : d ≤ n) : (colStep col M d).2 ≤ n ∧ (colStep col M d).2 ≤ d + 1 := by
  unfold colStep
  split
  · rename_i hany
    have hp := piv_lt hany
    rw [h.1] at hp
    simp only
    omega
  · simp only
    omega
theorem sweep_done {n L : Nat} {M : List (List UInt8)} (h : Lev n L M) : ∀ k, (sweepTo M k).2 ≤ n ∧ (sweepTo M k).2 ≤ k
  | 0 => ⟨Nat.zero_le _, Nat.le_refl _⟩
  | k + 1 => by
    have h1 := sweep_done h k
    have h2 := col_done (sweep_lev h k) (col := k) h1.1
    rw [sweepTo]
    omega
end Go.Proofs.Ytpbkabgjpieggaa


namespace Go.Proofs.Ytpbkabgjpieggaa
open Gf (mul inv sum idm mm Eqm IsRank)

theorem sum_add (n : Nat) (f g : Nat → UInt8) : sum n (fun k => f k ^^^ g k) = sum n f ^^^ sum n g := Gf.lsum_add _ f g
theorem sum_mul (n : Nat) (c : UInt8) (f : Nat → UInt8) : sum n (fun k => mul c (f k)) = mul c (sum n f) := Gf.lsum_mul _ c f
theorem sum_mul_right (n : Nat) (c : UInt8) (f : Nat → UInt8) : sum n (fun k => mul (f k) c) = mul (sum n f) c := Gf.lsum_mul_right _ c f
/-- A sum of multiples of rows. -/
def Span (n L : Nat) (A : Gf.Mat) (v : Nat → UInt8) : Prop := ∃ c : Nat → UInt8, ∀ j, j < L → v j = sum n (fun i => mul (c i) (A i j))
section
variable {n L : Nat} {A B C : Gf.Mat} {v x : Nat → UInt8}
theorem span_row {i : Nat} (hi : i < n) : Span n L A (A i) := ⟨idm i, fun j _ => (Gf.id_mm n A i j hi).symm⟩
theorem span_add (h : Span n L A v) (k : Span n L A x) : Span n L A (fun j => v j ^^^ x j) := by
  obtain ⟨c, hc⟩ := h
  obtain ⟨d, hd⟩ := k
  refine ⟨fun i => c i ^^^ d i, fun j hj => ?_⟩
  show v j ^^^ x j = _
  rw [hc j hj, hd j hj, ← sum_add]
  exact Gf.sum_congr (fun i _ => (Gf.add_mul _ _ _).symm)
theorem span_mul (h : Span n L A v) (a : UInt8) : Span n L A (fun j => mul a (v j)) := by
  obtain ⟨c, hc⟩ := h
  refine ⟨fun i => mul a (c i), fun j hj => ?_⟩
  show mul a (v j) = _
  rw [hc j hj, ← sum_mul]
  exact Gf.sum_congr (fun i _ => (Gf.mul_assoc _ _ _).symm)
theorem span_congr (h : Span n L A v) (e : ∀ j, j < L → x j = v j) : Span n L A x := by
  obtain ⟨c, hc⟩ := h
  exact ⟨c, fun j hj => (e j hj).trans (hc j hj)⟩
theorem span_all (h : ∀ i, i < n → Span n L A (B i)) : ∃ Y : Gf.Mat, Eqm n L B (mm n Y A) := by
  have h' : ∀ i, ∃ c : Nat → UInt8, i < n → ∀ j, j < L → B i j = sum n (fun k => mul (c k) (A k j)) := fun i => by
    by_cases hi : i < n
    · obtain ⟨c, hc⟩ := h i hi
      exact ⟨c, fun _ => hc⟩
    · exact ⟨fun _ => 0, fun hh => absurd hh hi⟩
  exact ⟨fun i => Classical.choose (h' i), fun i hi j hj => Classical.choose_spec (h' i) hi j hj⟩
theorem span_trans (h : ∀ i, i < n → Span n L A (B i)) (k : Span n L B v) : Span n L A v := by
  obtain ⟨Y, hY⟩ := span_all h
  obtain ⟨c, hc⟩ := k
  refine ⟨fun k => sum n (fun i => mul (c i) (Y i k)), fun j hj => ?_⟩
  rw [hc j hj]
  have h1 := Gf.mm_assoc n n (fun _ => c) Y A 0 j
  have h2 : sum n (fun i => mul (c i) (B i j)) = mm n (fun _ => c) (mm n Y A) 0 j := Gf.sum_congr (fun i hi => by rw [hY i hi j hj])
  rw [h2, ← h1]
  rfl
end

theorem getD_map_mul (l : List UInt8) (x : UInt8) (j : Nat) : (l.map (fun y => mul y x)).getD j 0 = mul (l.getD j 0) x := by
  simp only [List.getD_eq_getElem?_getD, List.getElem?_map]
  cases l[j]? with
  | none => simp [Gf.zero_mul]
  | some y => rfl
theorem elim_at (lead : List UInt8) (col : Nat) (r : List UInt8) (j : Nat) : (elim lead col r).getD j 0 = r.getD j 0 ^^^ mul (lead.getD j 0) (r.getD col 0) := by rw [elim, Gf.padd_get, getD_map_mul]
theorem lead_at (col : Nat) (r : List UInt8) (j : Nat) : (leadOf col r).getD j 0 = mul (r.getD j 0) (inv (r.getD col 0)) := getD_map_mul _ _ _

/-- Where a column's leading row is found. -/
def pAt (col : Nat) (M : List (List UInt8)) (d : Nat) : Nat := d + (M.drop d).findIdx (pivP col)
/-- Which row stands at place i, once the leading one is at d. -/
def sg (p d i : Nat) : Nat := if i = p then d else i
theorem swapped_at {M : List (List UInt8)} {d p i : Nat} {lead : List UInt8} (hd : d < M.length) (hp : p < M.length) (hi : i < M.length) : (swapped M d p lead).getD i [] = if i = d then lead else M.getD (sg p d i) [] := by
  unfold swapped sg
  simp only [List.getD_eq_getElem?_getD]
  by_cases h1 : i = d
  · subst h1
    rw [if_pos rfl, List.getElem?_set_self (by simpa using hi)]
    rfl
  · rw [if_neg h1, List.getElem?_set_ne (fun e => h1 e.symm)]
    by_cases h2 : i = p
    · subst h2
      rw [if_pos rfl, List.getElem?_set_self hi]
      rfl
    · rw [if_neg h2, List.getElem?_set_ne (fun e => h2 e.symm)]
theorem swept_at2 {lead : List UInt8} {col d n i : Nat} {M : List (List UInt8)} (hn : M.length = n) (hi : i < n) : (sweptTo lead col d n M).getD i [] = if i = d then M.getD i [] else elim lead col (M.getD i []) := by
  have hm : M[i]? = some (M[i]'(by omega)) := List.getElem?_eq_getElem _
  simp only [List.getD_eq_getElem?_getD, sweptTo_at, hm, Option.map_some, Option.getD_some]
  by_cases h : i = d
  · rw [if_neg (by omega), if_pos h]
  · rw [if_pos ⟨hi, h⟩, if_neg h]
theorem col_at {n L : Nat} {M : List (List UInt8)} (hM : Lev n L M) {d col : Nat} (hany : (M.drop d).any (pivP col) = true) {i : Nat} (hi : i < n) (j : Nat) :
    at2 (colStep col M d).1 i j = if i = d then mul (at2 M (pAt col M d) j) (inv (at2 M (pAt col M d) col)) else at2 M (sg (pAt col M d) d i) j ^^^ mul (mul (at2 M (pAt col M d) j) (inv (at2 M (pAt col M d) col))) (at2 M (sg (pAt col M d) d i) col) := by
  have hp : pAt col M d < M.length := piv_lt hany
  have hd : d < M.length := by unfold pAt at hp; omega
  have hc : (colStep col M d).1 = sweptTo (leadOf col (M.getD (pAt col M d) [])) col d M.length (swapped M d (pAt col M d) (leadOf col (M.getD (pAt col M d) []))) := by
    rw [colStep, if_pos hany]
    rfl
  rw [hc]
  generalize pAt col M d = p at hp ⊢
  have hsl : (swapped M d p (leadOf col (M.getD p []))).length = M.length := by simp [swapped]
  unfold at2
  rw [swept_at2 hsl (by rw [hM.1]; exact hi), swapped_at hd hp (by rw [hM.1]; exact hi)]
  by_cases h : i = d
  · rw [if_pos h, if_pos h, if_pos h, lead_at]
  · rw [if_neg h, if_neg h, if_neg h, elim_at, lead_at]
theorem piv_ne {n L : Nat} {M : List (List UInt8)} (hM : Lev n L M) {d col : Nat} (hany : (M.drop d).any (pivP col) = true) : d ≤ pAt col M d ∧ pAt col M d < n ∧ at2 M (pAt col M d) col ≠ 0 := by
  have hp : pAt col M d < M.length := piv_lt hany
  refine ⟨by unfold pAt; omega, by rw [← hM.1]; exact hp, ?_⟩
  have h2 := List.findIdx_getElem (p := pivP col) (xs := M.drop d) (w := List.findIdx_lt_length.2 (List.any_eq_true.1 hany))
  rw [List.getElem_drop] at h2
  have h3 : M.getD (pAt col M d) [] = M[pAt col M d] := by simp [List.getD_eq_getElem?_getD, List.getElem?_eq_getElem hp]
  have h6 : pivP col (M[pAt col M d]) = true := h2
  unfold at2
  rw [h3]
  generalize M[pAt col M d] = r at h6
  simpa [pivP] using h6
theorem none_zero {n L : Nat} {M : List (List UInt8)} (hM : Lev n L M) {d col : Nat} (hany : (M.drop d).any (pivP col) = false) {i : Nat} (h1 : d ≤ i) (hi : i < n) : at2 M i col = 0 := by
  have h2 := List.any_eq_false.1 hany
  have hm : M[i]? = some (M[i]'(by rw [hM.1]; exact hi)) := List.getElem?_eq_getElem _
  have h3 : M[i]'(by rw [hM.1]; exact hi) ∈ M.drop d := by
    apply List.mem_of_getElem? (i := i - d)
    rw [List.getElem?_drop, show d + (i - d) = i by omega]
    exact hm
  have h4 := h2 _ h3
  have h5 : M.getD i [] = M[i]'(by rw [hM.1]; exact hi) := by rw [List.getD_eq_getElem?_getD, hm]; rfl
  unfold at2
  rw [h5]
  simpa [pivP] using h4

/-- What has been reached: k columns, d leading rows. -/
structure Swept (n k : Nat) (E : Gf.Mat) (d : Nat) (c : Nat → Nat) : Prop where
  le : d ≤ n
  lt : ∀ t, t < d → c t < k
  inc : ∀ s t, s < t → t < d → c s < c t
  one : ∀ t, t < d → ∀ i, i < n → E i (c t) = idm i t
  zero : ∀ i, d ≤ i → i < n → ∀ j, j < k → E i j = 0
theorem swept_step {n L : Nat} {M : List (List UInt8)} (hM : Lev n L M) {k d : Nat} {c : Nat → Nat} (h : Swept n k (at2 M) d c) : ∃ c', Swept n (k + 1) (at2 (colStep k M d).1) (colStep k M d).2 c' := by
  rcases Bool.eq_false_or_eq_true ((M.drop d).any (pivP k)) with hany | hany
  · obtain ⟨hp1, hp2, hp3⟩ := piv_ne hM hany
    have h2 : (colStep k M d).2 = d + 1 := by rw [colStep, if_pos hany]
    rw [h2]
    have hat := fun {i : Nat} (hi : i < n) (j : Nat) => col_at hM hany hi j
    generalize pAt k M d = p at hp1 hp2 hp3 hat
    have hlead0 : ∀ t, t < d → at2 M p (c t) = 0 := fun t ht => by rw [h.one t ht p hp2, idm, if_neg (by omega)]
    refine ⟨fun t => if t < d then c t else k, ⟨by omega, fun t ht => ?_, fun s t hst ht => ?_, fun t ht i hi => ?_, fun i hi hin j hj => ?_⟩⟩
    · by_cases htd : t < d
      · simp only [htd, if_true]
        have := h.lt t htd
        omega
      · simp only [htd, if_false]
        omega
    · have hs : s < d := by omega
      simp only [hs, if_true]
      by_cases htd : t < d
      · simp only [htd, if_true]
        exact h.inc s t hst htd
      · simp only [htd, if_false]
        exact h.lt s hs
    · by_cases htd : t < d
      · simp only [htd, if_true]
        rw [hat hi]
        by_cases hid : i = d
        · rw [if_pos hid, hlead0 t htd, Gf.zero_mul, idm, if_neg (by omega)]
        · rw [if_neg hid, hlead0 t htd, Gf.zero_mul, Gf.zero_mul, Gf.add_zero]
          unfold sg
          by_cases hip : i = p
          · rw [if_pos hip, h.one t htd d (by omega), idm, idm, if_neg (by omega), if_neg (by omega)]
          · rw [if_neg hip, h.one t htd i hi]
      · simp only [htd, if_false]
        obtain rfl : t = d := by omega
        rw [hat hi]
        by_cases hid : i = t
        · rw [if_pos hid, Gf.mul_inv hp3, idm, if_pos hid]
        · rw [if_neg hid, Gf.mul_inv hp3, Gf.one_mul, Gf.add_self, idm, if_neg hid]
    · rw [hat hin, if_neg (by omega)]
      have hsg1 : d ≤ sg p d i := by unfold sg; split <;> omega
      have hsg2 : sg p d i < n := by unfold sg; split <;> omega
      by_cases hjk : j < k
      · rw [h.zero _ hsg1 hsg2 j hjk, h.zero p hp1 hp2 j hjk, Gf.zero_mul, Gf.zero_mul, Gf.add_self]
      · obtain rfl : j = k := by omega
        rw [Gf.mul_inv hp3, Gf.one_mul, Gf.add_self]
  · have h2 : colStep k M d = (M, d) := by rw [colStep, if_neg (by rw [hany]; decide)]
    rw [h2]
    refine ⟨c, ⟨h.le, fun t ht => Nat.lt_succ_of_lt (h.lt t ht), h.inc, h.one, fun i hi hin j hj => ?_⟩⟩
    by_cases hjk : j < k
    · exact h.zero i hi hin j hjk
    · obtain rfl : j = k := by omega
      exact none_zero hM hany hi hin
theorem sweep_swept {n L : Nat} {M : List (List UInt8)} (hM : Lev n L M) : ∀ k, ∃ c, Swept n k (at2 (sweepTo M k).1) (sweepTo M k).2 c
  | 0 => ⟨fun _ => 0, ⟨Nat.zero_le _, fun t ht => absurd ht (Nat.not_lt_zero _), fun s t _ ht => absurd ht (Nat.not_lt_zero _), fun t ht => absurd ht (Nat.not_lt_zero _), fun i _ _ j hj => absurd hj (Nat.not_lt_zero _)⟩⟩
  | k + 1 => by
    obtain ⟨c, hc⟩ := sweep_swept hM k
    exact swept_step (sweep_lev hM k) hc

/-- Each one's rows are sums of multiples of the other one's. -/
def Both (n L : Nat) (A B : Gf.Mat) : Prop := (∀ i, i < n → Span n L A (B i)) ∧ ∀ i, i < n → Span n L B (A i)
theorem Both.trans {n L : Nat} {A B C : Gf.Mat} (h : Both n L A B) (k : Both n L B C) : Both n L A C := ⟨fun i hi => span_trans h.1 (k.1 i hi), fun i hi => span_trans k.2 (h.2 i hi)⟩
theorem col_both {n L : Nat} {M : List (List UInt8)} (hM : Lev n L M) (k d : Nat) (hd : d ≤ n) (J : Nat) : Both n J (at2 M) (at2 (colStep k M d).1) := by
  rcases Bool.eq_false_or_eq_true ((M.drop d).any (pivP k)) with hany | hany
  · obtain ⟨hp1, hp2, hp3⟩ := piv_ne hM hany
    have hat := fun {i : Nat} (hi : i < n) (j : Nat) => col_at hM hany hi j
    generalize pAt k M d = p at hp1 hp2 hp3 hat
    generalize (colStep k M d).1 = E at hat
    have hdn : d < n := by omega
    have hsg : ∀ i, i < n → sg p d i < n := fun i hi => by unfold sg; split <;> omega
    have hlead : Span n J (at2 E) (fun j => at2 M p j) := span_congr (span_mul (span_row hdn) (at2 M p k)) (fun j _ => by
      rw [hat hdn, if_pos rfl, Gf.mul_comm (at2 M p k), Gf.mul_assoc, Gf.inv_mul hp3, Gf.mul_one])
    refine ⟨fun i hi => ?_, fun i hi => ?_⟩
    · by_cases hid : i = d
      · refine span_congr (span_mul (span_row hp2) (inv (at2 M p k))) (fun j _ => ?_)
        rw [hat hi, if_pos hid, Gf.mul_comm]
      · refine span_congr (span_add (span_row (hsg i hi)) (span_mul (span_row hp2) (mul (inv (at2 M p k)) (at2 M (sg p d i) k)))) (fun j _ => ?_)
        rw [hat hi, if_neg hid, Gf.mul_assoc, Gf.mul_comm (at2 M p j)]
    · by_cases hip : i = p
      · rw [hip]; exact hlead
      · obtain ⟨i', hi', hs, hne⟩ : ∃ i', i' < n ∧ sg p d i' = i ∧ i' ≠ d := by
          by_cases hid : i = d
          · exact ⟨p, hp2, by unfold sg; rw [if_pos rfl, hid], fun e => hip (by rw [hid, e])⟩
          · exact ⟨i, hi, by unfold sg; rw [if_neg hip], hid⟩
        refine span_congr (span_add (span_row hi') (span_mul hlead (mul (inv (at2 M p k)) (at2 M i k)))) (fun j _ => ?_)
        rw [hat hi', if_neg hne, hs, Gf.mul_assoc (at2 M p j), Gf.mul_comm (at2 M p j), Gf.add_assoc, Gf.add_self, Gf.add_zero]
  · have h2 : colStep k M d = (M, d) := by rw [colStep, if_neg (by rw [hany]; decide)]
    rw [h2]
    exact ⟨fun _ hi => span_row hi, fun _ hi => span_row hi⟩
theorem sweep_both {n L : Nat} {M : List (List UInt8)} (hM : Lev n L M) (J : Nat) : ∀ k, Both n J (at2 M) (at2 (sweepTo M k).1)
  | 0 => ⟨fun _ hi => span_row hi, fun _ hi => span_row hi⟩
  | k + 1 => (sweep_both hM J k).trans (col_both (sweep_lev hM k) k _ (sweep_done hM k).1 J)

theorem sum_first {n d : Nat} (h : d ≤ n) {f : Nat → UInt8} (hz : ∀ i, d ≤ i → i < n → f i = 0) : sum n f = sum d f := by
  induction n with
  | zero => rw [show d = 0 by omega]
  | succ m ih =>
    by_cases hd : d = m + 1
    · rw [hd]
    · rw [Gf.sum_succ, hz m (by omega) (by omega), Gf.add_zero]
      exact ih (by omega) (fun i h1 h2 => hz i h1 (by omega))
/-- It tells the rank. -/
theorem rank_swept {n k d : Nat} {A E : Gf.Mat} {c : Nat → Nat} (hE : Swept n k E d c) (hB : Both n k A E) : IsRank n k A d := by
  obtain ⟨Y, hY⟩ := span_all hB.1
  obtain ⟨X, hX⟩ := span_all hB.2
  have hX' : ∀ i, i < n → ∀ j, j < k → A i j = sum d (fun s => mul (X i s) (E s j)) := fun i hi j hj => by
    rw [hX i hi j hj]
    exact sum_first hE.le (fun s h1 h2 => by rw [hE.zero s h1 h2 j hj, Gf.mul_zero])
  have hA : ∀ i, i < n → ∀ t, t < d → A i (c t) = X i t := fun i hi t ht => by
    rw [hX' i hi (c t) (hE.lt t ht), Gf.sum_one ht (fun s hs hst => by rw [hE.one t ht s (Nat.lt_of_lt_of_le hs hE.le), idm, if_neg hst, Gf.mul_zero]), hE.one t ht t (Nat.lt_of_lt_of_le ht hE.le), idm, if_pos rfl, Gf.mul_one]
  refine ⟨X, Y, E, fun j t => if j = c t then 1 else 0, ?_, ?_, ?_⟩
  · exact fun i hi j hj => hX' i hi j hj
  · intro s hs t ht
    have h1 := hY s (Nat.lt_of_lt_of_le hs hE.le) (c t) (hE.lt t ht)
    rw [hE.one t ht s (Nat.lt_of_lt_of_le hs hE.le)] at h1
    rw [h1]
    exact Gf.sum_congr (fun i hi => by rw [hA i hi t ht])
  · intro s hs t ht
    show sum k (fun j => mul (E s j) (if j = c t then 1 else 0)) = _
    rw [Gf.sum_one (hE.lt t ht) (fun j _ hj => by rw [if_neg hj, Gf.mul_zero]), if_pos rfl, Gf.mul_one]
    exact hE.one t ht s (Nat.lt_of_lt_of_le hs hE.le)
theorem sweep_rank {n L : Nat} {M : List (List UInt8)} (hM : Lev n L M) (k : Nat) : IsRank n k (at2 M) (sweepTo M k).2 := by
  obtain ⟨c, hc⟩ := sweep_swept hM k
  exact rank_swept hc (sweep_both hM k k)
/-- All columns lead: the first part is the one that changes nothing. -/
theorem swept_full {n : Nat} {E : Gf.Mat} {c : Nat → Nat} (h : Swept n n E n c) : Eqm n n E idm := by
  have h1 : ∀ t, t < n → t ≤ c t := by
    intro t
    induction t with
    | zero => intro _; exact Nat.zero_le _
    | succ t ih =>
      intro ht
      have := ih (by omega)
      have := h.inc t (t + 1) (by omega) ht
      omega
  have h2 : ∀ m t, t + m + 1 = n → c t ≤ t := by
    intro m
    induction m with
    | zero => intro t ht; have := h.lt t (by omega); omega
    | succ m ih =>
      intro t ht
      have := ih (t + 1) (by omega)
      have := h.inc t (t + 1) (by omega) (by omega)
      omega
  intro i hi j hj
  have hc : c j = j := Nat.le_antisymm (h2 (n - 1 - j) j (by omega)) (h1 j hj)
  have := h.one j hj i hi
  rwa [hc] at this
end Go.Proofs.Ytpbkabgjpieggaa

