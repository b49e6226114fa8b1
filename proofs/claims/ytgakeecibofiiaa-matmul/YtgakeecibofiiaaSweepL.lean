/-
  Rows are swept, column by column: what package mat's sweep comes to.
-/
import Derived.Test.YtgakeecibofiiaaPoly
namespace Go.Proofs.Ytgakeecibofiiaa

/-- A matrix's number. -/
def at2 (M : List (List UInt8)) (i j : Nat) : UInt8 := (M.getD i []).getD j 0
theorem at2_of {M : List (List UInt8)} {i j : Nat} {r : List UInt8} {u : UInt8} (hr : M[i]? = some r) (hu : r[j]? = some u) : at2 M i j = u := by
  simp [at2, List.getD_eq_getElem?_getD, hr, hu]
/-- A row's number at col is not 0. -/
def pivP (col : Nat) (r : List UInt8) : Bool := r.getD col 0 != 0
/-- A row with the multiple of the leading one added that makes its number at col 0. -/
def elim (lead : List UInt8) (col : Nat) (r : List UInt8) : List UInt8 := Gf.padd r (lead.map (fun y => Gf.mul y (r.getD col 0)))
/-- The first k rows are done, but for the leading one. -/
def sweptTo (lead : List UInt8) (col d k : Nat) (M : List (List UInt8)) : List (List UInt8) := M.mapIdx (fun i r => if i < k ∧ i ≠ d then elim lead col r else r)
/-- The leading row, from one whose number at col is not 0. -/
def leadOf (col : Nat) (r : List UInt8) : List UInt8 := r.map (fun y => Gf.mul y (Gf.inv (r.getD col 0)))
/-- Row p is put to place d, as the leading one. -/
def swapped (M : List (List UInt8)) (d p : Nat) (lead : List UInt8) : List (List UInt8) := (M.set p (M.getD d [])).set d lead
/-- One column. -/
def colStep (col : Nat) (M : List (List UInt8)) (d : Nat) : List (List UInt8) × Nat :=
  if (M.drop d).any (pivP col) then
    (sweptTo (leadOf col (M.getD (d + (M.drop d).findIdx (pivP col)) [])) col d M.length (swapped M d (d + (M.drop d).findIdx (pivP col)) (leadOf col (M.getD (d + (M.drop d).findIdx (pivP col)) []))), d + 1)
  else (M, d)
/-- So many columns. -/
def sweepTo (M : List (List UInt8)) : Nat → List (List UInt8) × Nat
  | 0 => (M, 0)
  | k + 1 => colStep k (sweepTo M k).1 (sweepTo M k).2

/-- n rows of L numbers. -/
def Lev (n L : Nat) (M : List (List UInt8)) : Prop := M.length = n ∧ ∀ r ∈ M, r.length = L
theorem Lev.at {n L : Nat} {M : List (List UInt8)} (h : Lev n L M) {i : Nat} {r : List UInt8} (hr : M[i]? = some r) : r.length = L := h.2 r (List.mem_of_getElem? hr)
theorem Lev.get {n L : Nat} {M : List (List UInt8)} (h : Lev n L M) {i : Nat} (hi : i < n) : ∃ r, M[i]? = some r ∧ M.getD i [] = r ∧ r.length = L := by
  have hr : M[i]? = some (M[i]'(by rw [h.1]; exact hi)) := List.getElem?_eq_getElem _
  exact ⟨_, hr, by simp [List.getD_eq_getElem?_getD, hr], h.at hr⟩
theorem Lev.set {n L : Nat} {M : List (List UInt8)} (h : Lev n L M) (i : Nat) {r : List UInt8} (hr : r.length = L) : Lev n L (M.set i r) := by
  refine ⟨by simpa using h.1, fun s hs => ?_⟩
  rcases List.mem_or_eq_of_mem_set hs with h1 | h1
  · exact h.2 s h1
  · rw [h1]; exact hr
theorem elim_length {lead r : List UInt8} {L col : Nat} (h1 : lead.length = L) (h2 : r.length = L) : (elim lead col r).length = L := by
  rw [elim, Gf.padd_length, List.length_map, h1, h2]
  exact Nat.max_self L
theorem sweptTo_length (lead : List UInt8) (col d k : Nat) (M : List (List UInt8)) : (sweptTo lead col d k M).length = M.length := by simp [sweptTo]
theorem sweptTo_at (lead : List UInt8) (col d k : Nat) (M : List (List UInt8)) (i : Nat) : (sweptTo lead col d k M)[i]? = M[i]?.map (fun r => if i < k ∧ i ≠ d then elim lead col r else r) := by simp [sweptTo]
theorem sweptTo_zero (lead : List UInt8) (col d : Nat) (M : List (List UInt8)) : sweptTo lead col d 0 M = M := by
  apply List.ext_getElem?
  intro i
  rw [sweptTo_at]
  cases M[i]? <;> simp
theorem sweptTo_skip (lead : List UInt8) (col k : Nat) (M : List (List UInt8)) : sweptTo lead col k (k + 1) M = sweptTo lead col k k M := by
  apply List.ext_getElem?
  intro i
  rw [sweptTo_at, sweptTo_at]
  cases M[i]? with
  | none => rfl
  | some r =>
    simp only [Option.map_some]
    by_cases h : i < k ∧ i ≠ k
    · rw [if_pos h, if_pos (by omega)]
    · rw [if_neg h, if_neg (by omega)]
theorem sweptTo_step (lead : List UInt8) (col d k : Nat) (M : List (List UInt8)) (hk : k ≠ d) {r : List UInt8} (hr : M[k]? = some r) : (sweptTo lead col d k M).set k (elim lead col r) = sweptTo lead col d (k + 1) M := by
  have hlt := (List.getElem?_eq_some_iff.1 hr).1
  apply List.ext_getElem?
  intro i
  rw [sweptTo_at]
  by_cases hi : k = i
  · subst hi
    rw [List.getElem?_set_self (by rw [sweptTo_length]; exact hlt), hr]
    simp [hk]
  · rw [List.getElem?_set_ne hi, sweptTo_at]
    cases M[i]? with
    | none => rfl
    | some s =>
      simp only [Option.map_some]
      by_cases h : i < k ∧ i ≠ d
      · rw [if_pos h, if_pos (by omega)]
      · rw [if_neg h, if_neg (by omega)]
theorem Lev.swept {n L : Nat} {M : List (List UInt8)} (h : Lev n L M) {lead : List UInt8} (hl : lead.length = L) (col d k : Nat) : Lev n L (sweptTo lead col d k M) := by
  refine ⟨by rw [sweptTo_length]; exact h.1, fun r hr => ?_⟩
  obtain ⟨i, hi⟩ := List.getElem?_of_mem hr
  rw [sweptTo_at] at hi
  cases hm : M[i]? with
  | none => rw [hm] at hi; cases hi
  | some s =>
    rw [hm] at hi
    simp only [Option.map_some] at hi
    cases hi
    split
    · exact elim_length hl (h.at hm)
    · exact h.at hm
theorem leadOf_length (col : Nat) (r : List UInt8) : (leadOf col r).length = r.length := by simp [leadOf]
theorem piv_lt {M : List (List UInt8)} {d col : Nat} (h : (M.drop d).any (pivP col) = true) : d + (M.drop d).findIdx (pivP col) < M.length := by
  have h1 : (M.drop d).findIdx (pivP col) < (M.drop d).length := List.findIdx_lt_length.2 (List.any_eq_true.1 h)
  rw [List.length_drop] at h1
  omega
theorem Lev.swapped {n L : Nat} {M : List (List UInt8)} (h : Lev n L M) {d p : Nat} (hd : d < n) {lead : List UInt8} (hl : lead.length = L) : Lev n L (swapped M d p lead) := by
  obtain ⟨r, _, h2, h3⟩ := h.get hd
  unfold Proofs.Ytgakeecibofiiaa.swapped
  rw [h2]
  exact (h.set p h3).set d hl
theorem Lev.col {n L : Nat} {M : List (List UInt8)} (h : Lev n L M) (col d : Nat) : Lev n L (colStep col M d).1 := by
  unfold colStep
  split
  · rename_i hany
    have hp := piv_lt hany
    have hdn : d < n := by rw [← h.1]; omega
    obtain ⟨r, _, h2, h3⟩ := h.get (show d + (M.drop d).findIdx (pivP col) < n by rw [← h.1]; exact hp)
    have hl : (leadOf col (M.getD (d + (M.drop d).findIdx (pivP col)) [])).length = L := by rw [leadOf_length, h2, h3]
    exact (h.swapped hdn hl).swept hl _ _ _
  · exact h
theorem sweep_lev {n L : Nat} {M : List (List UInt8)} (h : Lev n L M) : ∀ k, Lev n L (sweepTo M k).1
  | 0 => h
  | k + 1 => (sweep_lev h k).col _ _
theorem col_done {n L : Nat} {M : List (List UInt8)} (h : Lev n L M) {col d : Nat} (hd : d ≤ n) : (colStep col M d).2 ≤ n ∧ (colStep col M d).2 ≤ d + 1 := by
  unfold colStep
  split
  · rename_i hany
    have hp := piv_lt hany
    rw [h.1] at hp
    simp only
    omega
  · simp only
    omega
theorem sweep_done {n L : Nat} {M : List (List UInt8)} (h : Lev n L M) : ∀ k, (sweepTo M k).2 ≤ n ∧ (sweepTo M k).2 ≤ k
  | 0 => ⟨Nat.zero_le _, Nat.le_refl _⟩
  | k + 1 => by
    have h1 := sweep_done h k
    have h2 := col_done (sweep_lev h k) (col := k) h1.1
    rw [sweepTo]
    omega
end Go.Proofs.Ytgakeecibofiiaa
