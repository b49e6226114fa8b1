/-
  Sweeping tells the rank, and turns a matrix back.
-/
import Derived.Test.YtgakeecibofiiaaSweepL
import Derived.Test.YtgakeecibofiiaaLin
namespace Go.Proofs.Ytgakeecibofiiaa
open Gf (mul inv sum idm mm Eqm IsRank)

theorem sum_add (n : Nat) (f g : Nat → UInt8) : sum n (fun k => f k ^^^ g k) = sum n f ^^^ sum n g := Gf.lsum_add _ f g
theorem sum_mul (n : Nat) (c : UInt8) (f : Nat → UInt8) : sum n (fun k => mul c (f k)) = mul c (sum n f) := Gf.lsum_mul _ c f
theorem sum_mul_right (n : Nat) (c : UInt8) (f : Nat → UInt8) : sum n (fun k => mul (f k) c) = mul (sum n f) c := Gf.lsum_mul_right _ c f
/-- A sum of multiples of rows. -/
def Span (n L : Nat) (A : Gf.Mat) (v : Nat → UInt8) : Prop := ∃ c : Nat → UInt8, ∀ j, j < L → v j = sum n (fun i => mul (c i) (A i j))
section
variable {n L : Nat} {A B C : Gf.Mat} {v x : Nat → UInt8}
theorem span_row {i : Nat} (hi : i < n) : Span n L A (A i) := ⟨idm i, fun j _ => (Gf.id_mm n A i j hi).symm⟩
theorem span_add (h : Span n L A v) (k : Span n L A x) : Span n L A (fun j => v j ^^^ x j) := by
  obtain ⟨c, hc⟩ := h
  obtain ⟨d, hd⟩ := k
  refine ⟨fun i => c i ^^^ d i, fun j hj => ?_⟩
  show v j ^^^ x j = _
  rw [hc j hj, hd j hj, ← sum_add]
  exact Gf.sum_congr (fun i _ => (Gf.add_mul _ _ _).symm)
theorem span_mul (h : Span n L A v) (a : UInt8) : Span n L A (fun j => mul a (v j)) := by
  obtain ⟨c, hc⟩ := h
  refine ⟨fun i => mul a (c i), fun j hj => ?_⟩
  show mul a (v j) = _
  rw [hc j hj, ← sum_mul]
  exact Gf.sum_congr (fun i _ => (Gf.mul_assoc _ _ _).symm)
theorem span_congr (h : Span n L A v) (e : ∀ j, j < L → x j = v j) : Span n L A x := by
  obtain ⟨c, hc⟩ := h
  exact ⟨c, fun j hj => (e j hj).trans (hc j hj)⟩
theorem span_all (h : ∀ i, i < n → Span n L A (B i)) : ∃ Y : Gf.Mat, Eqm n L B (mm n Y A) := by
  have h' : ∀ i, ∃ c : Nat → UInt8, i < n → ∀ j, j < L → B i j = sum n (fun k => mul (c k) (A k j)) := fun i => by
    by_cases hi : i < n
    · obtain ⟨c, hc⟩ := h i hi
      exact ⟨c, fun _ => hc⟩
    · exact ⟨fun _ => 0, fun hh => absurd hh hi⟩
  exact ⟨fun i => Classical.choose (h' i), fun i hi j hj => Classical.choose_spec (h' i) hi j hj⟩
theorem span_trans (h : ∀ i, i < n → Span n L A (B i)) (k : Span n L B v) : Span n L A v := by
  obtain ⟨Y, hY⟩ := span_all h
  obtain ⟨c, hc⟩ := k
  refine ⟨fun k => sum n (fun i => mul (c i) (Y i k)), fun j hj => ?_⟩
  rw [hc j hj]
  have h1 := Gf.mm_assoc n n (fun _ => c) Y A 0 j
  have h2 : sum n (fun i => mul (c i) (B i j)) = mm n (fun _ => c) (mm n Y A) 0 j := Gf.sum_congr (fun i hi => by rw [hY i hi j hj])
  rw [h2, ← h1]
  rfl
end

theorem getD_map_mul (l : List UInt8) (x : UInt8) (j : Nat) : (l.map (fun y => mul y x)).getD j 0 = mul (l.getD j 0) x := by
  simp only [List.getD_eq_getElem?_getD, List.getElem?_map]
  cases l[j]? with
  | none => simp [Gf.zero_mul]
  | some y => rfl
theorem elim_at (lead : List UInt8) (col : Nat) (r : List UInt8) (j : Nat) : (elim lead col r).getD j 0 = r.getD j 0 ^^^ mul (lead.getD j 0) (r.getD col 0) := by rw [elim, Gf.padd_get, getD_map_mul]
theorem lead_at (col : Nat) (r : List UInt8) (j : Nat) : (leadOf col r).getD j 0 = mul (r.getD j 0) (inv (r.getD col 0)) := getD_map_mul _ _ _

/-- Where a column's leading row is found. -/
def pAt (col : Nat) (M : List (List UInt8)) (d : Nat) : Nat := d + (M.drop d).findIdx (pivP col)
/-- Which row stands at place i, once the leading one is at d. -/
def sg (p d i : Nat) : Nat := if i = p then d else i
theorem swapped_at {M : List (List UInt8)} {d p i : Nat} {lead : List UInt8} (hd : d < M.length) (hp : p < M.length) (hi : i < M.length) : (swapped M d p lead).getD i [] = if i = d then lead else M.getD (sg p d i) [] := by
  unfold swapped sg
  simp only [List.getD_eq_getElem?_getD]
  by_cases h1 : i = d
  · subst h1
    rw [if_pos rfl, List.getElem?_set_self (by simpa using hi)]
    rfl
  · rw [if_neg h1, List.getElem?_set_ne (fun e => h1 e.symm)]
    by_cases h2 : i = p
    · subst h2
      rw [if_pos rfl, List.getElem?_set_self hi]
      rfl
    · rw [if_neg h2, List.getElem?_set_ne (fun e => h2 e.symm)]
theorem swept_at2 {lead : List UInt8} {col d n i : Nat} {M : List (List UInt8)} (hn : M.length = n) (hi : i < n) : (sweptTo lead col d n M).getD i [] = if i = d then M.getD i [] else elim lead col (M.getD i []) := by
  have hm : M[i]? = some (M[i]'(by omega)) := List.getElem?_eq_getElem _
  simp only [List.getD_eq_getElem?_getD, sweptTo_at, hm, Option.map_some, Option.getD_some]
  by_cases h : i = d
  · rw [if_neg (by omega), if_pos h]
  · rw [if_pos ⟨hi, h⟩, if_neg h]
theorem col_at {n L : Nat} {M : List (List UInt8)} (hM : Lev n L M) {d col : Nat} (hany : (M.drop d).any (pivP col) = true) {i : Nat} (hi : i < n) (j : Nat) :
    at2 (colStep col M d).1 i j = if i = d then mul (at2 M (pAt col M d) j) (inv (at2 M (pAt col M d) col)) else at2 M (sg (pAt col M d) d i) j ^^^ mul (mul (at2 M (pAt col M d) j) (inv (at2 M (pAt col M d) col))) (at2 M (sg (pAt col M d) d i) col) := by
  have hp : pAt col M d < M.length := piv_lt hany
  have hd : d < M.length := by unfold pAt at hp; omega
  have hc : (colStep col M d).1 = sweptTo (leadOf col (M.getD (pAt col M d) [])) col d M.length (swapped M d (pAt col M d) (leadOf col (M.getD (pAt col M d) []))) := by
    rw [colStep, if_pos hany]
    rfl
  rw [hc]
  generalize pAt col M d = p at hp ⊢
  have hsl : (swapped M d p (leadOf col (M.getD p []))).length = M.length := by simp [swapped]
  unfold at2
  rw [swept_at2 hsl (by rw [hM.1]; exact hi), swapped_at hd hp (by rw [hM.1]; exact hi)]
  by_cases h : i = d
  · rw [if_pos h, if_pos h, if_pos h, lead_at]
  · rw [if_neg h, if_neg h, if_neg h, elim_at, lead_at]
theorem piv_ne {n L : Nat} {M : List (List UInt8)} (hM : Lev n L M) {d col : Nat} (hany : (M.drop d).any (pivP col) = true) : d ≤ pAt col M d ∧ pAt col M d < n ∧ at2 M (pAt col M d) col ≠ 0 := by
  have hp : pAt col M d < M.length := piv_lt hany
  refine ⟨by unfold pAt; omega, by rw [← hM.1]; exact hp, ?_⟩
  have h2 := List.findIdx_getElem (p := pivP col) (xs := M.drop d) (w := List.findIdx_lt_length.2 (List.any_eq_true.1 hany))
  rw [List.getElem_drop] at h2
  have h3 : M.getD (pAt col M d) [] = M[pAt col M d] := by simp [List.getD_eq_getElem?_getD, List.getElem?_eq_getElem hp]
  have h6 : pivP col (M[pAt col M d]) = true := h2
  unfold at2
  rw [h3]
  generalize M[pAt col M d] = r at h6
  simpa [pivP] using h6
theorem none_zero {n L : Nat} {M : List (List UInt8)} (hM : Lev n L M) {d col : Nat} (hany : (M.drop d).any (pivP col) = false) {i : Nat} (h1 : d ≤ i) (hi : i < n) : at2 M i col = 0 := by
  have h2 := List.any_eq_false.1 hany
  have hm : M[i]? = some (M[i]'(by rw [hM.1]; exact hi)) := List.getElem?_eq_getElem _
  have h3 : M[i]'(by rw [hM.1]; exact hi) ∈ M.drop d := by
    apply List.mem_of_getElem? (i := i - d)
    rw [List.getElem?_drop, show d + (i - d) = i by omega]
    exact hm
  have h4 := h2 _ h3
  have h5 : M.getD i [] = M[i]'(by rw [hM.1]; exact hi) := by rw [List.getD_eq_getElem?_getD, hm]; rfl
  unfold at2
  rw [h5]
  simpa [pivP] using h4

/-- What has been reached: k columns, d leading rows. -/
structure Swept (n k : Nat) (E : Gf.Mat) (d : Nat) (c : Nat → Nat) : Prop where
  le : d ≤ n
  lt : ∀ t, t < d → c t < k
  inc : ∀ s t, s < t → t < d → c s < c t
  one : ∀ t, t < d → ∀ i, i < n → E i (c t) = idm i t
  zero : ∀ i, d ≤ i → i < n → ∀ j, j < k → E i j = 0
theorem swept_step {n L : Nat} {M : List (List UInt8)} (hM : Lev n L M) {k d : Nat} {c : Nat → Nat} (h : Swept n k (at2 M) d c) : ∃ c', Swept n (k + 1) (at2 (colStep k M d).1) (colStep k M d).2 c' := by
  rcases Bool.eq_false_or_eq_true ((M.drop d).any (pivP k)) with hany | hany
  · obtain ⟨hp1, hp2, hp3⟩ := piv_ne hM hany
    have h2 : (colStep k M d).2 = d + 1 := by rw [colStep, if_pos hany]
    rw [h2]
    have hat := fun {i : Nat} (hi : i < n) (j : Nat) => col_at hM hany hi j
    generalize pAt k M d = p at hp1 hp2 hp3 hat
    have hlead0 : ∀ t, t < d → at2 M p (c t) = 0 := fun t ht => by rw [h.one t ht p hp2, idm, if_neg (by omega)]
    refine ⟨fun t => if t < d then c t else k, ⟨by omega, fun t ht => ?_, fun s t hst ht => ?_, fun t ht i hi => ?_, fun i hi hin j hj => ?_⟩⟩
    · by_cases htd : t < d
      · simp only [htd, if_true]
        have := h.lt t htd
        omega
      · simp only [htd, if_false]
        omega
    · have hs : s < d := by omega
      simp only [hs, if_true]
      by_cases htd : t < d
      · simp only [htd, if_true]
        exact h.inc s t hst htd
      · simp only [htd, if_false]
        exact h.lt s hs
    · by_cases htd : t < d
      · simp only [htd, if_true]
        rw [hat hi]
        by_cases hid : i = d
        · rw [if_pos hid, hlead0 t htd, Gf.zero_mul, idm, if_neg (by omega)]
        · rw [if_neg hid, hlead0 t htd, Gf.zero_mul, Gf.zero_mul, Gf.add_zero]
          unfold sg
          by_cases hip : i = p
          · rw [if_pos hip, h.one t htd d (by omega), idm, idm, if_neg (by omega), if_neg (by omega)]
          · rw [if_neg hip, h.one t htd i hi]
      · simp only [htd, if_false]
        obtain rfl : t = d := by omega
        rw [hat hi]
        by_cases hid : i = t
        · rw [if_pos hid, Gf.mul_inv hp3, idm, if_pos hid]
        · rw [if_neg hid, Gf.mul_inv hp3, Gf.one_mul, Gf.add_self, idm, if_neg hid]
    · rw [hat hin, if_neg (by omega)]
      have hsg1 : d ≤ sg p d i := by unfold sg; split <;> omega
      have hsg2 : sg p d i < n := by unfold sg; split <;> omega
      by_cases hjk : j < k
      · rw [h.zero _ hsg1 hsg2 j hjk, h.zero p hp1 hp2 j hjk, Gf.zero_mul, Gf.zero_mul, Gf.add_self]
      · obtain rfl : j = k := by omega
        rw [Gf.mul_inv hp3, Gf.one_mul, Gf.add_self]
  · have h2 : colStep k M d = (M, d) := by rw [colStep, if_neg (by rw [hany]; decide)]
    rw [h2]
    refine ⟨c, ⟨h.le, fun t ht => Nat.lt_succ_of_lt (h.lt t ht), h.inc, h.one, fun i hi hin j hj => ?_⟩⟩
    by_cases hjk : j < k
    · exact h.zero i hi hin j hjk
    · obtain rfl : j = k := by omega
      exact none_zero hM hany hi hin
theorem sweep_swept {n L : Nat} {M : List (List UInt8)} (hM : Lev n L M) : ∀ k, ∃ c, Swept n k (at2 (sweepTo M k).1) (sweepTo M k).2 c
  | 0 => ⟨fun _ => 0, ⟨Nat.zero_le _, fun t ht => absurd ht (Nat.not_lt_zero _), fun s t _ ht => absurd ht (Nat.not_lt_zero _), fun t ht => absurd ht (Nat.not_lt_zero _), fun i _ _ j hj => absurd hj (Nat.not_lt_zero _)⟩⟩
  | k + 1 => by
    obtain ⟨c, hc⟩ := sweep_swept hM k
    exact swept_step (sweep_lev hM k) hc

/-- Each one's rows are sums of multiples of the other one's. -/
def Both (n L : Nat) (A B : Gf.Mat) : Prop := (∀ i, i < n → Span n L A (B i)) ∧ ∀ i, i < n → Span n L B (A i)
theorem Both.trans {n L : Nat} {A B C : Gf.Mat} (h : Both n L A B) (k : Both n L B C) : Both n L A C := ⟨fun i hi => span_trans h.1 (k.1 i hi), fun i hi => span_trans k.2 (h.2 i hi)⟩
theorem col_both {n L : Nat} {M : List (List UInt8)} (hM : Lev n L M) (k d : Nat) (hd : d ≤ n) (J : Nat) : Both n J (at2 M) (at2 (colStep k M d).1) := by
  rcases Bool.eq_false_or_eq_true ((M.drop d).any (pivP k)) with hany | hany
  · obtain ⟨hp1, hp2, hp3⟩ := piv_ne hM hany
    have hat := fun {i : Nat} (hi : i < n) (j : Nat) => col_at hM hany hi j
    generalize pAt k M d = p at hp1 hp2 hp3 hat
    generalize (colStep k M d).1 = E at hat
    have hdn : d < n := by omega
    have hsg : ∀ i, i < n → sg p d i < n := fun i hi => by unfold sg; split <;> omega
    have hlead : Span n J (at2 E) (fun j => at2 M p j) := span_congr (span_mul (span_row hdn) (at2 M p k)) (fun j _ => by
      rw [hat hdn, if_pos rfl, Gf.mul_comm (at2 M p k), Gf.mul_assoc, Gf.inv_mul hp3, Gf.mul_one])
    refine ⟨fun i hi => ?_, fun i hi => ?_⟩
    · by_cases hid : i = d
      · refine span_congr (span_mul (span_row hp2) (inv (at2 M p k))) (fun j _ => ?_)
        rw [hat hi, if_pos hid, Gf.mul_comm]
      · refine span_congr (span_add (span_row (hsg i hi)) (span_mul (span_row hp2) (mul (inv (at2 M p k)) (at2 M (sg p d i) k)))) (fun j _ => ?_)
        rw [hat hi, if_neg hid, Gf.mul_assoc, Gf.mul_comm (at2 M p j)]
    · by_cases hip : i = p
      · rw [hip]; exact hlead
      · obtain ⟨i', hi', hs, hne⟩ : ∃ i', i' < n ∧ sg p d i' = i ∧ i' ≠ d := by
          by_cases hid : i = d
          · exact ⟨p, hp2, by unfold sg; rw [if_pos rfl, hid], fun e => hip (by rw [hid, e])⟩
          · exact ⟨i, hi, by unfold sg; rw [if_neg hip], hid⟩
        refine span_congr (span_add (span_row hi') (span_mul hlead (mul (inv (at2 M p k)) (at2 M i k)))) (fun j _ => ?_)
        rw [hat hi', if_neg hne, hs, Gf.mul_assoc (at2 M p j), Gf.mul_comm (at2 M p j), Gf.add_assoc, Gf.add_self, Gf.add_zero]
  · have h2 : colStep k M d = (M, d) := by rw [colStep, if_neg (by rw [hany]; decide)]
    rw [h2]
    exact ⟨fun _ hi => span_row hi, fun _ hi => span_row hi⟩
theorem sweep_both {n L : Nat} {M : List (List UInt8)} (hM : Lev n L M) (J : Nat) : ∀ k, Both n J (at2 M) (at2 (sweepTo M k).1)
  | 0 => ⟨fun _ hi => span_row hi, fun _ hi => span_row hi⟩
  | k + 1 => (sweep_both hM J k).trans (col_both (sweep_lev hM k) k _ (sweep_done hM k).1 J)

theorem sum_first {n d : Nat} (h : d ≤ n) {f : Nat → UInt8} (hz : ∀ i, d ≤ i → i < n → f i = 0) : sum n f = sum d f := by
  induction n with
  | zero => rw [show d = 0 by omega]
  | succ m ih =>
    by_cases hd : d = m + 1
    · rw [hd]
    · rw [Gf.sum_succ, hz m (by omega) (by omega), Gf.add_zero]
      exact ih (by omega) (fun i h1 h2 => hz i h1 (by omega))
/-- It tells the rank. -/
theorem rank_swept {n k d : Nat} {A E : Gf.Mat} {c : Nat → Nat} (hE : Swept n k E d c) (hB : Both n k A E) : IsRank n k A d := by
  obtain ⟨Y, hY⟩ := span_all hB.1
  obtain ⟨X, hX⟩ := span_all hB.2
  have hX' : ∀ i, i < n → ∀ j, j < k → A i j = sum d (fun s => mul (X i s) (E s j)) := fun i hi j hj => by
    rw [hX i hi j hj]
    exact sum_first hE.le (fun s h1 h2 => by rw [hE.zero s h1 h2 j hj, Gf.mul_zero])
  have hA : ∀ i, i < n → ∀ t, t < d → A i (c t) = X i t := fun i hi t ht => by
    rw [hX' i hi (c t) (hE.lt t ht), Gf.sum_one ht (fun s hs hst => by rw [hE.one t ht s (Nat.lt_of_lt_of_le hs hE.le), idm, if_neg hst, Gf.mul_zero]), hE.one t ht t (Nat.lt_of_lt_of_le ht hE.le), idm, if_pos rfl, Gf.mul_one]
  refine ⟨X, Y, E, fun j t => if j = c t then 1 else 0, ?_, ?_, ?_⟩
  · exact fun i hi j hj => hX' i hi j hj
  · intro s hs t ht
    have h1 := hY s (Nat.lt_of_lt_of_le hs hE.le) (c t) (hE.lt t ht)
    rw [hE.one t ht s (Nat.lt_of_lt_of_le hs hE.le)] at h1
    rw [h1]
    exact Gf.sum_congr (fun i hi => by rw [hA i hi t ht])
  · intro s hs t ht
    show sum k (fun j => mul (E s j) (if j = c t then 1 else 0)) = _
    rw [Gf.sum_one (hE.lt t ht) (fun j _ hj => by rw [if_neg hj, Gf.mul_zero]), if_pos rfl, Gf.mul_one]
    exact hE.one t ht s (Nat.lt_of_lt_of_le hs hE.le)
theorem sweep_rank {n L : Nat} {M : List (List UInt8)} (hM : Lev n L M) (k : Nat) : IsRank n k (at2 M) (sweepTo M k).2 := by
  obtain ⟨c, hc⟩ := sweep_swept hM k
  exact rank_swept hc (sweep_both hM k k)
/-- All columns lead: the first part is the one that changes nothing. -/
theorem swept_full {n : Nat} {E : Gf.Mat} {c : Nat → Nat} (h : Swept n n E n c) : Eqm n n E idm := by
  have h1 : ∀ t, t < n → t ≤ c t := by
    intro t
    induction t with
    | zero => intro _; exact Nat.zero_le _
    | succ t ih =>
      intro ht
      have := ih (by omega)
      have := h.inc t (t + 1) (by omega) ht
      omega
  have h2 : ∀ m t, t + m + 1 = n → c t ≤ t := by
    intro m
    induction m with
    | zero => intro t ht; have := h.lt t (by omega); omega
    | succ m ih =>
      intro t ht
      have := ih (t + 1) (by omega)
      have := h.inc t (t + 1) (by omega) (by omega)
      omega
  intro i hi j hj
  have hc : c j = j := Nat.le_antisymm (h2 (n - 1 - j) j (by omega)) (h1 j hj)
  have := h.one j hj i hi
  rwa [hc] at this
end Go.Proofs.Ytgakeecibofiiaa
