/-
  Matrices over the field, in plain mathematics: products, and how many rows hang on no others (by factors that may be turned back).
-/
import Derived.Test.YtgakeecibofiiaaFld
namespace Go.Proofs.Ytgakeecibofiiaa.Gf

/-- A matrix: a number for each place; how many rows and columns it has is said besides. -/
abbrev Mat := Nat → Nat → UInt8
/-- The product, over n places. -/
def mm (n : Nat) (A B : Mat) : Mat := fun i j => sum n (fun k => mul (A i k) (B k j))
/-- The one that changes nothing. -/
def idm : Mat := fun i j => if i = j then 1 else 0
/-- Turned. -/
def tr (A : Mat) : Mat := fun i j => A j i
/-- Alike, as far as m rows and n columns go. -/
def Eqm (m n : Nat) (A B : Mat) : Prop := ∀ i, i < m → ∀ j, j < n → A i j = B i j
theorem Eqm.refl (m n : Nat) (A : Mat) : Eqm m n A A := fun _ _ _ _ => rfl
theorem Eqm.symm {m n : Nat} {A B : Mat} (h : Eqm m n A B) : Eqm m n B A := fun i hi j hj => (h i hi j hj).symm
theorem Eqm.trans {m n : Nat} {A B C : Mat} (h : Eqm m n A B) (k : Eqm m n B C) : Eqm m n A C := fun i hi j hj => (h i hi j hj).trans (k i hi j hj)
theorem mm_congr {m n p : Nat} {A A' B B' : Mat} (h : Eqm m n A A') (k : Eqm n p B B') : Eqm m p (mm n A B) (mm n A' B') := fun i hi j hj =>
  sum_congr (fun t ht => by rw [h i hi t ht, k t ht j hj])
theorem sum_swap (n p : Nat) (f : Nat → Nat → UInt8) : sum n (fun k => sum p (f k)) = sum p (fun t => sum n (fun k => f k t)) := lsum_swap _ _ _
theorem mm_assoc (n p : Nat) (A B C : Mat) (i j : Nat) : mm p (mm n A B) C i j = mm n A (mm p B C) i j := by
  have h1 : mm p (mm n A B) C i j = sum p (fun t => sum n (fun k => mul (mul (A i k) (B k t)) (C t j))) := sum_congr (fun t _ => (lsum_mul_right _ _ _).symm)
  have h2 : mm n A (mm p B C) i j = sum n (fun k => sum p (fun t => mul (A i k) (mul (B k t) (C t j)))) := sum_congr (fun k _ => (lsum_mul _ _ _).symm)
  rw [h1, h2, sum_swap]
  exact sum_congr (fun k _ => sum_congr (fun t _ => mul_assoc _ _ _))
theorem mm_id (n : Nat) (A : Mat) (i j : Nat) (hj : j < n) : mm n A idm i j = A i j := by
  refine (sum_one (f := fun k => mul (A i k) (idm k j)) hj (fun k _ hne => ?_)).trans ?_
  · simp [idm, hne, mul_zero]
  · simp [idm, mul_one]
theorem id_mm (n : Nat) (A : Mat) (i j : Nat) (hi : i < n) : mm n idm A i j = A i j := by
  refine (sum_one (f := fun k => mul (idm i k) (A k j)) hi (fun k _ hne => ?_)).trans ?_
  · simp [idm, Ne.symm hne, zero_mul]
  · simp [idm, one_mul]
theorem tr_mm (n : Nat) (A B : Mat) (i j : Nat) : tr (mm n A B) i j = mm n (tr B) (tr A) i j := sum_congr (fun _ _ => mul_comm _ _)
theorem tr_id : tr idm = idm := by
  funext i j
  simp only [tr, idm, eq_comm]

/-- More unknowns than there are equations: something that is not 0 meets them all. -/
theorem homog : ∀ (s : Nat) (Y : Mat) (J : List Nat), J.Nodup → s < J.length → ∃ v : Nat → UInt8, (∀ j, j ∉ J → v j = 0) ∧ (∃ j ∈ J, v j ≠ 0) ∧ ∀ i, i < s → lsum J (fun j => mul (Y i j) (v j)) = 0
  | 0, Y, [], _, h => by simp at h
  | 0, Y, j0 :: J, _, _ => ⟨fun j => if j = j0 then 1 else 0, fun j hj => by simp [show j ≠ j0 from fun e => hj (by simp [e])], ⟨j0, by simp, by simp⟩, fun i hi => by omega⟩
  | s + 1, Y, J, hn, hl => by
    by_cases hz : ∀ j ∈ J, Y s j = 0
    · obtain ⟨v, h1, h2, h3⟩ := homog s Y J hn (by omega)
      refine ⟨v, h1, h2, fun i hi => ?_⟩
      rcases Nat.lt_or_ge i s with h | h
      · exact h3 i h
      · obtain rfl : i = s := by omega
        exact lsum_zero (fun j hj => by rw [hz j hj, zero_mul])
    · obtain ⟨j0, hj0, hne⟩ : ∃ j0 ∈ J, Y s j0 ≠ 0 := by
        refine Classical.byContradiction fun hc => hz fun j hj => Classical.byContradiction fun he => hc ⟨j, hj, he⟩
      have hlen : (J.erase j0).length = J.length - 1 := List.length_erase_of_mem hj0
      have hpos : 0 < J.length := List.length_pos_of_mem hj0
      obtain ⟨v, h1, h2, h3⟩ := homog s (fun i j => Y i j ^^^ mul (mul (Y i j0) (inv (Y s j0))) (Y s j)) (J.erase j0) (hn.erase j0) (by omega)
      have hnot : j0 ∉ J.erase j0 := fun h => (List.Nodup.mem_erase_iff hn).1 h |>.1 rfl
      have hp : J.Perm (j0 :: J.erase j0) := List.perm_cons_erase hj0
      have hag : ∀ (t : UInt8) (i : Nat), lsum (J.erase j0) (fun j => mul (Y i j) (if j = j0 then t else v j)) = lsum (J.erase j0) (fun j => mul (Y i j) (v j)) := fun t i => lsum_congr (fun j hj => by rw [if_neg (show ¬ j = j0 from fun e => hnot (e ▸ hj))])
      refine ⟨fun j => if j = j0 then mul (lsum (J.erase j0) (fun j => mul (Y s j) (v j))) (inv (Y s j0)) else v j, fun j hj => ?_, ?_, fun i hi => ?_⟩
      · have : j ≠ j0 := fun e => hj (e ▸ hj0)
        simp only [if_neg this]
        exact h1 j (fun h => hj (List.mem_of_mem_erase h))
      · obtain ⟨j, hj, hv⟩ := h2
        refine ⟨j, List.mem_of_mem_erase hj, ?_⟩
        simp only [if_neg (show j ≠ j0 from fun e => hnot (e ▸ hj))]
        exact hv
      · rw [lsum_perm hp, lsum_cons, hag]
        show mul (Y i j0) (if j0 = j0 then mul (lsum (J.erase j0) (fun j => mul (Y s j) (v j))) (inv (Y s j0)) else v j0) ^^^ _ = 0
        rw [if_pos rfl]
        rcases Nat.lt_or_ge i s with h | h
        · have h4 := h3 i h
          rw [lsum_congr (g := fun j => mul (Y i j) (v j) ^^^ mul (mul (Y i j0) (inv (Y s j0))) (mul (Y s j) (v j))) (fun j _ => by rw [add_mul, mul_assoc _ (Y s j) (v j)]), lsum_add, lsum_mul] at h4
          rw [← h4, add_comm]
          congr 1
          rw [mul_comm (lsum _ _), ← mul_assoc]
        · obtain rfl : i = s := by omega
          rw [mul_comm (lsum _ _), ← mul_assoc, mul_inv hne, one_mul, add_self]

/-- What goes through fewer places than there are does not give all back. -/
theorem through_le {r s : Nat} {X Y : Mat} (h : Eqm r r (mm s X Y) idm) : r ≤ s := by
  refine Classical.byContradiction fun hc => ?_
  obtain ⟨v, _, ⟨j, hj, hv⟩, h3⟩ := homog s Y (List.range r) List.nodup_range (by rw [List.length_range]; omega)
  have hj' : j < r := List.mem_range.1 hj
  refine hv ?_
  have h4 : mm r (mm s X Y) (fun k _ => v k) j 0 = mm s X (mm r Y (fun k _ => v k)) j 0 := mm_assoc s r X Y _ j 0
  have h5 : mm s X (mm r Y (fun k _ => v k)) j 0 = 0 := sum_zero (fun k hk => by rw [show mm r Y (fun k _ => v k) k 0 = 0 from h3 k hk, mul_zero])
  have h6 : mm r (mm s X Y) (fun k _ => v k) j 0 = v j := (mm_congr (p := 1) h (Eqm.refl r 1 _) j hj' 0 (by omega)).trans (id_mm r _ j 0 hj')
  rw [← h6, h4, h5]

/-- M is a product over r places of two that may be turned back, each on one side. -/
def Fact (m n r : Nat) (M A A' B B' : Mat) : Prop := Eqm m n M (mm r A B) ∧ Eqm r r (mm m A' A) idm ∧ Eqm r r (mm n B B') idm
def IsRank (m n : Nat) (M : Mat) (r : Nat) : Prop := ∃ A A' B B', Fact m n r M A A' B B'
theorem IsRank.congr {m n r : Nat} {M M' : Mat} (h : IsRank m n M r) (e : Eqm m n M M') : IsRank m n M' r := by
  obtain ⟨A, A', B, B', h1, h2, h3⟩ := h
  exact ⟨A, A', B, B', e.symm.trans h1, h2, h3⟩
theorem IsRank.turn {m n r : Nat} {M : Mat} (h : IsRank m n M r) : IsRank n m (tr M) r := by
  obtain ⟨A, A', B, B', h1, h2, h3⟩ := h
  refine ⟨tr B, tr B', tr A, tr A', fun i hi j hj => ?_, fun i hi j hj => ?_, fun i hi j hj => ?_⟩
  · rw [← tr_mm]
    exact h1 j hj i hi
  · rw [← tr_mm]
    exact (h3 j hj i hi).trans (by simp only [idm, eq_comm])
  · rw [← tr_mm]
    exact (h2 j hj i hi).trans (by simp only [idm, eq_comm])
theorem IsRank.le_of {m n r s : Nat} {M : Mat} (h : IsRank m n M r) (k : IsRank m n M s) : r ≤ s := by
  obtain ⟨A, A', B, B', h1, h2, h3⟩ := h
  obtain ⟨C, _, D, _, k1, _, _⟩ := k
  -- A' M B' is the one that changes nothing; it goes through s places
  refine through_le (X := mm m A' C) (Y := mm n D B') (fun i hi j hj => ?_)
  have e1 : mm s (mm m A' C) (mm n D B') i j = mm m A' (mm s C (mm n D B')) i j := mm_assoc m s A' C _ i j
  have e2 : ∀ t, mm s C (mm n D B') t j = mm n (mm s C D) B' t j := fun t => (mm_assoc s n C D B' t j).symm
  have e3 : ∀ t, t < m → mm n (mm s C D) B' t j = mm n (mm r A B) B' t j := fun t ht => (mm_congr (m := m) (p := r) (k1.symm.trans h1) (Eqm.refl n r B') t ht j hj)
  have e4 : ∀ t, mm n (mm r A B) B' t j = mm r A (mm n B B') t j := fun t => mm_assoc r n A B B' t j
  have e5 : ∀ t, mm r A (mm n B B') t j = mm r A idm t j := fun t => sum_congr (fun k hk => by rw [h3 k hk j hj])
  rw [e1, show mm m A' (mm s C (mm n D B')) i j = mm m A' A i j from sum_congr (fun t ht => by rw [e2, e3 t ht, e4, e5, mm_id r A t j hj])]
  exact h2 i hi j hj
theorem IsRank.unique {m n r s : Nat} {M : Mat} (h : IsRank m n M r) (k : IsRank m n M s) : r = s := Nat.le_antisymm (h.le_of k) (k.le_of h)
theorem IsRank.le_rows {m n r : Nat} {M : Mat} (h : IsRank m n M r) : r ≤ m := by
  obtain ⟨A, A', B, B', _, h2, _⟩ := h
  exact through_le h2
theorem IsRank.le_cols {m n r : Nat} {M : Mat} (h : IsRank m n M r) : r ≤ n := by
  obtain ⟨A, A', B, B', _, _, h3⟩ := h
  exact through_le h3

/-- Every matrix has one. -/
theorem rank_exists : ∀ (m n : Nat) (M : Mat), ∃ r, IsRank m n M r
  | 0, n, M => ⟨0, M, M, M, M, fun i hi => by omega, fun i hi => by omega, fun i hi => by omega⟩
  | m + 1, n, M => by
    by_cases hz : ∀ j, j < n → M 0 j = 0
    · obtain ⟨r, A, A', B, B', h1, h2, h3⟩ := rank_exists m n (fun i j => M (i + 1) j)
      refine ⟨r, fun i k => match i with | 0 => 0 | i + 1 => A i k, fun k i => match i with | 0 => 0 | i + 1 => A' k i, B, B', fun i hi j hj => ?_, fun i hi j hj => ?_, h3⟩
      · cases i with
        | zero =>
          rw [hz j hj]
          exact (sum_zero (fun k _ => zero_mul _)).symm
        | succ i => exact h1 i (by omega) j hj
      · rw [← h2 i hi j hj]
        show sum (m + 1) _ = _
        rw [sum_front]
        show mul 0 0 ^^^ _ = _
        rw [mul_zero, zero_add]
        rfl
    · obtain ⟨j0, hj0, hne⟩ : ∃ j0, j0 < n ∧ M 0 j0 ≠ 0 := by
        refine Classical.byContradiction fun hc => hz fun j hj => Classical.byContradiction fun he => hc ⟨j, hj, he⟩
      -- the first row, made 1 at j0, is taken away from the others
      obtain ⟨p, hp⟩ : ∃ p : Nat → UInt8, p = fun j => mul (inv (M 0 j0)) (M 0 j) := ⟨_, rfl⟩
      have hp0 : p j0 = 1 := by rw [hp]; exact inv_mul hne
      have hrow : ∀ j, M 0 j = mul (M 0 j0) (p j) := fun j => by rw [hp, ← mul_assoc, mul_inv hne, one_mul]
      obtain ⟨r, A, A', B, B', h1, h2, h3⟩ := rank_exists m n (fun i j => M (i + 1) j ^^^ mul (M (i + 1) j0) (p j))
      -- B has nothing at j0
      have hB : ∀ k, k < r → B k j0 = 0 := fun k hk => by
        have e1 : mm r (mm m A' A) B k j0 = mm m A' (mm r A B) k j0 := mm_assoc m r A' A B k j0
        have e2 : mm r (mm m A' A) B k j0 = B k j0 := (sum_congr (fun t ht => by rw [h2 k hk t ht])).trans (id_mm r B k j0 hk)
        have e3 : mm m A' (mm r A B) k j0 = 0 := sum_zero (fun t ht => by rw [← h1 t ht j0 hj0]; show mul (A' k t) (M (t + 1) j0 ^^^ mul (M (t + 1) j0) (p j0)) = 0; rw [hp0, mul_one, add_self, mul_zero])
        rw [← e2, e1, e3]
      refine ⟨r + 1,
        fun i k => match i, k with | 0, 0 => M 0 j0 | 0, _ + 1 => 0 | i + 1, 0 => M (i + 1) j0 | i + 1, k + 1 => A i k,
        fun k i => match k, i with | 0, 0 => inv (M 0 j0) | 0, _ + 1 => 0 | k + 1, 0 => mul (sum m (fun t => mul (A' k t) (M (t + 1) j0))) (inv (M 0 j0)) | k + 1, i + 1 => A' k i,
        fun k j => match k with | 0 => p j | k + 1 => B k j,
        fun j k => match k with | 0 => (if j = j0 then 1 else 0) | k + 1 => B' j k ^^^ (if j = j0 then sum n (fun t => mul (p t) (B' t k)) else 0),
        fun i hi j hj => ?_, fun i hi j hj => ?_, fun i hi j hj => ?_⟩
      · show _ = sum (r + 1) _
        rw [sum_front]
        cases i with
        | zero =>
          show _ = mul (M 0 j0) (p j) ^^^ sum r (fun k => mul 0 (B k j))
          rw [sum_zero (fun k _ => zero_mul _), add_zero]
          exact hrow j
        | succ i =>
          show _ = mul (M (i + 1) j0) (p j) ^^^ sum r (fun k => mul (A i k) (B k j))
          have h4 : M (i + 1) j ^^^ mul (M (i + 1) j0) (p j) = sum r (fun k => mul (A i k) (B k j)) := h1 i (by omega) j hj
          rw [← h4, add_comm (M (i + 1) j), add_left]
      · show sum (m + 1) _ = _
        rw [sum_front]
        cases i with
        | zero =>
          cases j with
          | zero =>
            show mul (inv (M 0 j0)) (M 0 j0) ^^^ sum m (fun t => mul 0 (M (t + 1) j0)) = _
            rw [sum_zero (fun k _ => zero_mul _), add_zero, inv_mul hne]
            rfl
          | succ j =>
            show mul (inv (M 0 j0)) 0 ^^^ sum m (fun t => mul 0 (A t j)) = _
            rw [sum_zero (fun k _ => zero_mul _), add_zero, mul_zero]
            rfl
        | succ i =>
          cases j with
          | zero =>
            show mul (mul (sum m (fun t => mul (A' i t) (M (t + 1) j0))) (inv (M 0 j0))) (M 0 j0) ^^^ sum m (fun t => mul (A' i t) (M (t + 1) j0)) = _
            rw [mul_assoc, inv_mul hne, mul_one, add_self]
            rfl
          | succ j =>
            show mul (mul (sum m (fun t => mul (A' i t) (M (t + 1) j0))) (inv (M 0 j0))) 0 ^^^ sum m (fun t => mul (A' i t) (A t j)) = _
            rw [mul_zero, zero_add]
            refine (h2 i (by omega) j (by omega)).trans ?_
            simp [idm]
      · cases i with
        | zero =>
          cases j with
          | zero =>
            refine (sum_one (f := fun t => mul (p t) (if t = j0 then 1 else 0)) hj0 (fun t _ ht => by simp only [if_neg ht, mul_zero])).trans ?_
            simp only [if_pos, hp0, mul_one]
            rfl
          | succ j =>
            have e : mm n (fun k j => match k with | 0 => p j | k + 1 => B k j) (fun j k => match k with | 0 => (if j = j0 then 1 else 0) | k + 1 => B' j k ^^^ (if j = j0 then sum n (fun t => mul (p t) (B' t k)) else 0)) 0 (j + 1)
                = sum n (fun t => mul (p t) (B' t j) ^^^ mul (p t) (if t = j0 then sum n (fun t => mul (p t) (B' t j)) else 0)) := sum_congr (fun t _ => mul_add _ _ _)
            rw [e]
            unfold sum
            rw [lsum_add]
            have e2 : lsum (List.range n) (fun t => mul (p t) (if t = j0 then lsum (List.range n) (fun t => mul (p t) (B' t j)) else 0)) = lsum (List.range n) (fun t => mul (p t) (B' t j)) := by
              refine (lsum_one List.nodup_range (List.mem_range.2 hj0) (fun t _ ht => by simp only [if_neg ht, mul_zero])).trans ?_
              simp only [if_pos, hp0, one_mul]
            rw [e2, add_self]
            rfl
        | succ i =>
          cases j with
          | zero =>
            refine (sum_one (f := fun t => mul (B i t) (if t = j0 then 1 else 0)) hj0 (fun t _ ht => by simp only [if_neg ht, mul_zero])).trans ?_
            simp only [if_pos, mul_one, hB i (by omega)]
            rfl
          | succ j =>
            have e : mm n (fun k j => match k with | 0 => p j | k + 1 => B k j) (fun j k => match k with | 0 => (if j = j0 then 1 else 0) | k + 1 => B' j k ^^^ (if j = j0 then sum n (fun t => mul (p t) (B' t k)) else 0)) (i + 1) (j + 1)
                = sum n (fun t => mul (B i t) (B' t j) ^^^ mul (B i t) (if t = j0 then sum n (fun t => mul (p t) (B' t j)) else 0)) := sum_congr (fun t _ => mul_add _ _ _)
            rw [e]
            unfold sum
            rw [lsum_add]
            have e2 : lsum (List.range n) (fun t => mul (B i t) (if t = j0 then lsum (List.range n) (fun t => mul (p t) (B' t j)) else 0)) = 0 := by
              refine (lsum_one List.nodup_range (List.mem_range.2 hj0) (fun t _ ht => by simp only [if_neg ht, mul_zero])).trans ?_
              rw [hB i (by omega), zero_mul]
            rw [e2, add_zero]
            refine (h3 i (by omega) j (by omega)).trans ?_
            simp [idm]

/-- What has something that undoes it loses nothing. -/
theorem inj_of_right {n : Nat} {X Y : Mat} (h : Eqm n n (mm n X Y) idm) (z : Nat → UInt8) (hz : ∀ i, i < n → sum n (fun k => mul (X i k) (z k)) = 0) : ∀ i, i < n → z i = 0 := by
  obtain ⟨c, _, ⟨j, hj, hc⟩, h3⟩ := homog n (fun i k => if k = n then z i else Y i k) (List.range (n + 1)) List.nodup_range (by rw [List.length_range]; omega)
  have h4 : ∀ i, i < n → sum n (fun k => mul (Y i k) (c k)) = mul (z i) (c n) := fun i hi => by
    have h5 := h3 i hi
    change sum (n + 1) _ = 0 at h5
    rw [sum_succ, if_pos rfl] at h5
    rw [← eq_of_add h5]
    exact sum_congr (fun k hk => by rw [if_neg (by omega)])
  have h6 : ∀ t, t < n → c t = 0 := fun t ht => by
    have e1 : mm n (mm n X Y) (fun k _ => c k) t 0 = c t := (sum_congr (fun k hk => by rw [h t ht k hk])).trans (id_mm n (fun k _ => c k) t 0 ht)
    rw [← e1, mm_assoc]
    have e2 : mm n X (mm n Y (fun k _ => c k)) t 0 = sum n (fun k => mul (mul (X t k) (z k)) (c n)) := sum_congr (fun k hk => by rw [show mm n Y (fun k _ => c k) k 0 = mul (z k) (c n) from h4 k hk, mul_assoc])
    rw [e2]
    unfold sum
    rw [lsum_mul_right, show lsum (List.range n) (fun k => mul (X t k) (z k)) = 0 from hz t ht, zero_mul]
  have hcn : c n ≠ 0 := by
    rcases Nat.lt_or_ge j n with hl | hl
    · exact absurd (h6 j hl) hc
    · obtain rfl : j = n := by have := List.mem_range.1 hj; omega
      exact hc
  intro i hi
  have h7 := h4 i hi
  rw [sum_zero (fun k hk => by rw [h6 k hk, mul_zero])] at h7
  exact (mul_eq_zero h7.symm).resolve_right hcn
/-- Square: what turns it back on one side does on the other. -/
theorem one_side {n : Nat} {X Y : Mat} (h : Eqm n n (mm n X Y) idm) : Eqm n n (mm n Y X) idm := fun i hi j hj => by
  refine eq_of_add (inj_of_right h (fun i => mm n Y X i j ^^^ idm i j) (fun t ht => ?_) i hi)
  have e1 : sum n (fun k => mul (X t k) (mm n Y X k j ^^^ idm k j)) = mm n X (mm n Y X) t j ^^^ mm n X idm t j := (sum_congr (fun k _ => mul_add _ _ _)).trans (lsum_add _ _ _)
  rw [e1, ← mm_assoc, mm_id n X t j hj, show mm n (mm n X Y) X t j = X t j from (sum_congr (fun k hk => by rw [h t ht k hk])).trans (id_mm n X t j ht), add_self]

/-- It may be turned back. -/
def Inv (n : Nat) (X Y : Mat) : Prop := Eqm n n (mm n X Y) idm ∧ Eqm n n (mm n Y X) idm
theorem Inv.symm {n : Nat} {X Y : Mat} (h : Inv n X Y) : Inv n Y X := ⟨h.2, h.1⟩
theorem Inv.of {n : Nat} {X Y : Mat} (h : Eqm n n (mm n X Y) idm) : Inv n X Y := ⟨h, one_side h⟩
theorem Inv.unique {n : Nat} {X Y Z : Mat} (h : Inv n X Y) (k : Eqm n n (mm n X Z) idm) : Eqm n n Y Z := fun i hi j hj => by
  have e1 : mm n (mm n Y X) Z i j = Z i j := (sum_congr (fun t ht => by rw [h.2 i hi t ht])).trans (id_mm n Z i j hi)
  have e2 : mm n Y (mm n X Z) i j = Y i j := (sum_congr (fun t ht => by rw [k t ht j hj])).trans (mm_id n Y i j hj)
  rw [← e1, mm_assoc, e2]
/-- What loses nothing may be turned back. -/
theorem inv_of_inj {n : Nat} {X : Mat} (h : ∀ z : Nat → UInt8, (∀ i, i < n → sum n (fun k => mul (X i k) (z k)) = 0) → ∀ i, i < n → z i = 0) : IsRank n n X n ∧ ∃ Y, Inv n X Y := by
  obtain ⟨r, hr⟩ := rank_exists n n X
  have hle := hr.le_rows
  have hge : n ≤ r := by
    refine Classical.byContradiction fun hc => ?_
    obtain ⟨A, A', B, B', h1, _, _⟩ := hr
    obtain ⟨v, _, ⟨j, hj, hv⟩, h3⟩ := homog r B (List.range n) List.nodup_range (by rw [List.length_range]; omega)
    refine hv (h v (fun i hi => ?_) j (List.mem_range.1 hj))
    have e : sum n (fun k => mul (X i k) (v k)) = mm n (mm r A B) (fun k _ => v k) i 0 := sum_congr (fun k hk => by rw [h1 i hi k hk])
    rw [e, mm_assoc]
    exact sum_zero (fun k hk => by rw [show mm n B (fun k _ => v k) k 0 = 0 from h3 k hk, mul_zero])
  obtain rfl : r = n := Nat.le_antisymm hle hge
  refine ⟨hr, ?_⟩
  obtain ⟨A, A', B, B', h1, h2, h3⟩ := hr
  have h4 := one_side h2
  refine ⟨mm r B' A', Inv.of (fun i hi j hj => ?_)⟩
  have e1 : mm r X (mm r B' A') i j = mm r (mm r A B) (mm r B' A') i j := sum_congr (fun k hk => by rw [h1 i hi k hk])
  have e2 : ∀ t, t < r → mm r B (mm r B' A') t j = A' t j := fun t ht => by
    rw [← mm_assoc]
    exact (sum_congr (fun k hk => by rw [h3 t ht k hk])).trans (id_mm r A' t j ht)
  rw [e1, mm_assoc, show mm r A (mm r B (mm r B' A')) i j = mm r A A' i j from sum_congr (fun t ht => by rw [e2 t ht])]
  exact h4 i hi j hj
theorem inj_of_inv {n : Nat} {X Y : Mat} (h : Inv n X Y) (z : Nat → UInt8) (hz : ∀ i, i < n → sum n (fun k => mul (X i k) (z k)) = 0) : ∀ i, i < n → z i = 0 := inj_of_right h.1 z hz
theorem rank_of_inv {n : Nat} {X Y : Mat} (h : Inv n X Y) : IsRank n n X n := (inv_of_inj (inj_of_inv h)).1
theorem inv_of_rank {n : Nat} {X : Mat} (h : IsRank n n X n) : ∃ Y, Inv n X Y := by
  obtain ⟨A, A', B, B', h1, h2, h3⟩ := h
  refine (inv_of_inj (fun z hz => ?_)).2
  have hA : Inv n A A' := Inv.of (one_side h2)
  have hB : Inv n B B' := Inv.of h3
  have e : ∀ i, i < n → sum n (fun k => mul (A i k) (mm n B (fun k _ => z k) k 0)) = 0 := fun i hi => by
    rw [← hz i hi]
    have e1 : sum n (fun k => mul (X i k) (z k)) = mm n (mm n A B) (fun k _ => z k) i 0 := sum_congr (fun k hk => by rw [h1 i hi k hk])
    rw [e1, mm_assoc]
    rfl
  exact inj_of_inv hB z (inj_of_inv hA (fun k => mm n B (fun k _ => z k) k 0) e)

/-- What is multiplied by one that may be turned back has as many. -/
theorem IsRank.by_inv {m n r : Nat} {M P Q : Mat} (h : IsRank m n M r) (hP : Inv m P Q) : IsRank m n (mm m P M) r := by
  obtain ⟨A, A', B, B', h1, h2, h3⟩ := h
  refine ⟨mm m P A, mm m A' Q, B, B', fun i hi j hj => ?_, fun i hi j hj => ?_, h3⟩
  · rw [mm_assoc]
    exact sum_congr (fun k hk => by rw [h1 k hk j hj])
  · rw [mm_assoc, ← h2 i hi j hj]
    refine sum_congr (fun k hk => ?_)
    rw [← mm_assoc, show mm m (mm m Q P) A k j = A k j from (sum_congr (fun t ht => by rw [hP.2 k hk t ht])).trans (id_mm m A k j hk)]
theorem IsRank.of_inv {m n r : Nat} {M P Q : Mat} (h : IsRank m n (mm m P M) r) (hP : Inv m P Q) : IsRank m n M r := by
  refine (h.by_inv hP.symm).congr (fun i hi j hj => ?_)
  rw [← mm_assoc]
  exact (sum_congr (fun t ht => by rw [hP.2 i hi t ht])).trans (id_mm m M i j hi)
/-- Rows of which none hangs on others, and rows of 0 behind them. -/
theorem rank_of_rows {m n r : Nat} {E : Mat} (hr : r ≤ m) (hz : ∀ i, r ≤ i → i < m → ∀ j, j < n → E i j = 0) (hi : ∀ y : Nat → UInt8, (∀ j, j < n → sum r (fun i => mul (y i) (E i j)) = 0) → ∀ i, i < r → y i = 0) : IsRank m n E r := by
  obtain ⟨s, A, A', B, B', h1, h2, h3⟩ := rank_exists r n E
  have hsr : s ≤ r := through_le h2
  have hrs : r ≤ s := by
    refine Classical.byContradiction fun hc => ?_
    obtain ⟨y, _, ⟨t, ht, hy⟩, h4⟩ := homog s (fun k i => A i k) (List.range r) List.nodup_range (by rw [List.length_range]; omega)
    refine hy (hi y (fun j hj => ?_) t (List.mem_range.1 ht))
    have e1 : sum r (fun i => mul (y i) (E i j)) = mm r (fun _ i => y i) (mm s A B) 0 j := sum_congr (fun i hi => by rw [h1 i hi j hj])
    rw [e1, ← mm_assoc]
    refine sum_zero (fun k hk => ?_)
    have e2 : mm r (fun _ i => y i) A 0 k = 0 := (sum_congr (fun i _ => mul_comm _ _)).trans (h4 k hk)
    rw [e2, zero_mul]
  obtain rfl : s = r := Nat.le_antisymm hsr hrs
  have h4 := one_side h2
  refine ⟨idm, idm, E, mm s B' A', fun i hi j hj => ?_, fun i hi j hj => ?_, fun i hi j hj => ?_⟩
  · rcases Nat.lt_or_ge i s with h | h
    · exact (id_mm s E i j h).symm
    · rw [hz i h hi j hj]
      exact (sum_zero (fun k hk => by simp [idm, show ¬ i = k by omega, zero_mul])).symm
  · exact id_mm m idm i j (by omega)
  · have e1 : mm n E (mm s B' A') i j = mm n (mm s A B) (mm s B' A') i j := sum_congr (fun k hk => by rw [h1 i hi k hk])
    have e2 : ∀ t, t < s → mm n B (mm s B' A') t j = A' t j := fun t ht => by
      rw [← mm_assoc]
      exact (sum_congr (fun k hk => by rw [h3 t ht k hk])).trans (id_mm s A' t j ht)
    rw [e1, mm_assoc, show mm s A (mm n B (mm s B' A')) i j = mm s A A' i j from sum_congr (fun t ht => by rw [e2 t ht])]
    exact h4 i hi j hj
/-- Stairs: each row begins behind the one ahead, and not with 0. -/
theorem rank_of_stairs {m n r : Nat} {E : Mat} (c : Nat → Nat) (hr : r ≤ m) (hz : ∀ i, r ≤ i → i < m → ∀ j, j < n → E i j = 0) (hc : ∀ i, i < r → c i < n ∧ E i (c i) ≠ 0) (hb : ∀ i k, i < k → k < r → E k (c i) = 0) : IsRank m n E r := by
  refine rank_of_rows hr hz (fun y hy => ?_)
  intro i
  induction i using Nat.strongRecOn with
  | ind i ih =>
    intro hi
    have h := hy (c i) (hc i hi).1
    rw [sum_one (f := fun k => mul (y k) (E k (c i))) hi (fun k hk hne => ?_)] at h
    · exact (mul_eq_zero h).resolve_right (hc i hi).2
    · rcases Nat.lt_or_ge k i with hl | hl
      · show mul (y k) (E k (c i)) = 0
        rw [ih k hl hk, zero_mul]
      · show mul (y k) (E k (c i)) = 0
        rw [hb i k (by omega) hk, mul_zero]
end Go.Proofs.Ytgakeecibofiiaa.Gf
