/-
  The powers of numbers, as a matrix.
-/
import Derived.Test.YtgakeecibofiiaaBackN
namespace Go.Proofs.Ytgakeecibofiiaa
open Gf (mul inv sum idm mm Eqm IsRank Inv)

/-- The powers of numbers, from 0 on. -/
def powsL (l : List UInt8) (q : Nat) : List (List UInt8) := matBy l.length q (fun i j => powL (l.getD i 0) (j : Int))
theorem pows_at {l : List UInt8} {q i j : Nat} (hi : i < l.length) (hj : j < q) (hq : q ≤ 255) : at2 (powsL l q) i j = Gf.pw (l.getD i 0) j := by
  rw [powsL, matBy_at2 hi hj]
  exact powL_any _ j (by omega)
/-- A polynomial's numbers, one a row. -/
def colL (p : List UInt8) : List (List UInt8) := p.map (fun u => [u])
theorem col_lev (p : List UInt8) : Lev p.length 1 (colL p) := ⟨by simp [colL], fun r hr => by
  obtain ⟨u, _, rfl⟩ := List.mem_map.1 hr
  rfl⟩
theorem colL_at {p : List UInt8} (i : Nat) : at2 (colL p) i 0 = p.getD i 0 := by
  unfold at2 colL
  simp only [List.getD_eq_getElem?_getD, List.getElem?_map]
  cases p[i]? <;> rfl
/-- What they make of them is its values. -/
theorem pows_col {l p : List UInt8} (hp : p.length ≤ 255) {i : Nat} (hi : i < l.length) : at2 (appL (powsL l p.length) (colL p)) i 0 = Gf.ev p (l.getD i 0) := by
  rw [app_at (by rw [powsL, matBy_length]; exact hi), (col_lev p).1, Gf.ev_sum]
  exact Gf.sum_congr (fun j hj => by rw [pows_at hi hj hp, colL_at, Gf.mul_comm])
theorem sum_ev (z : Nat → UInt8) (x : UInt8) (n : Nat) : Gf.ev ((List.range n).map z) x = sum n (fun k => mul (Gf.pw x k) (z k)) := by
  rw [Gf.ev_sum, List.length_map, List.length_range]
  exact Gf.sum_congr (fun k hk => by rw [Gf.mul_comm]; congr 1; simp [List.getD_eq_getElem?_getD, hk])
theorem pows_lev (l : List UInt8) (q : Nat) : Lev l.length q (powsL l q) := matBy_lev _ _ _
/-- Unlike numbers: it may be turned back. -/
theorem pows_full {l : List UInt8} (hn : l.Nodup) (h1 : 1 ≤ l.length ∧ l.length ≤ 255) : rankL (powsL l l.length) = l.length := by
  have hr := lev_right (pows_lev l l.length) h1 h1
  have h2 := rank_right hr.1
  rw [hr.2, (pows_lev l l.length).1] at h2
  refine h2.unique (Gf.inv_of_inj (fun z hz => ?_)).1
  have h3 := Gf.roots l ((List.range l.length).map z) hn (by simp) (fun x hx => by
    obtain ⟨i, hi⟩ := List.getElem?_of_mem hx
    have hil := (List.getElem?_eq_some_iff.1 hi).1
    have he : l.getD i 0 = x := by simp [List.getD_eq_getElem?_getD, hi]
    rw [sum_ev, ← hz i hil]
    exact Gf.sum_congr (fun k hk => by rw [pows_at hil hk h1.2, he]))
  intro i hi
  exact h3 (z i) (List.mem_map.2 ⟨i, List.mem_range.2 hi, rfl⟩)
/-- Two alike: it may not. -/
theorem pows_less {l : List UInt8} {i k : Nat} (hi : i < l.length) (hk : k < l.length) (hne : i ≠ k) (he : l.getD i 0 = l.getD k 0) (h1 : 1 ≤ l.length ∧ l.length ≤ 255) : rankL (powsL l l.length) < l.length := by
  have hr := lev_right (pows_lev l l.length) h1 h1
  have h2 := rank_right hr.1
  rw [hr.2, (pows_lev l l.length).1] at h2
  have hle := h2.le_rows
  rcases Nat.lt_or_ge (rankL (powsL l l.length)) l.length with h3 | h3
  · exact h3
  · exfalso
    have h4 : rankL (powsL l l.length) = l.length := by omega
    rw [h4] at h2
    obtain ⟨Y, hY⟩ := Gf.inv_of_rank h2
    have e1 := hY.1 i hi i hi
    have e2 := hY.1 k hk i hi
    have e3 : mm l.length (at2 (powsL l l.length)) Y i i = mm l.length (at2 (powsL l l.length)) Y k i := Gf.sum_congr (fun j hj => by rw [pows_at hi hj h1.2, pows_at hk hj h1.2, he])
    rw [e1, e2, idm, idm, if_pos rfl, if_neg (fun e => hne e.symm)] at e3
    exact absurd e3 (by decide)
/-- All numbers ahead of the k-th are unlike it. -/
def freshTo (l : List UInt8) (i k : Nat) : Bool := (List.range k).all (fun j => l.getD i 0 != l.getD j 0)
theorem fresh_succ (l : List UInt8) (i k : Nat) : freshTo l i (k + 1) = (freshTo l i k && (l.getD i 0 != l.getD k 0)) := by
  simp [freshTo, List.range_succ, List.all_append]
/-- The first k numbers are unlike. -/
def unlikeTo (l : List UInt8) : Nat → Bool
  | 0 => true
  | k + 1 => unlikeTo l k && freshTo l k k
theorem unlike_pair {l : List UInt8} : ∀ {n : Nat}, unlikeTo l n = true → ∀ i k, k < i → i < n → l.getD i 0 ≠ l.getD k 0
  | 0, _, i, k, _, h => absurd h (Nat.not_lt_zero _)
  | n + 1, h, i, k, hk, hi => by
    rw [unlikeTo, Bool.and_eq_true] at h
    by_cases hin : i < n
    · exact unlike_pair h.1 i k hk hin
    · obtain rfl : i = n := by omega
      have := List.all_eq_true.1 h.2 k (List.mem_range.2 hk)
      simpa using this
theorem unlike_not {l : List UInt8} : ∀ {n : Nat}, unlikeTo l n = false → ∃ i k, k < i ∧ i < n ∧ l.getD i 0 = l.getD k 0
  | 0, h => by cases h
  | n + 1, h => by
    rw [unlikeTo, Bool.and_eq_false_iff] at h
    rcases h with h | h
    · obtain ⟨i, k, h1, h2, h3⟩ := unlike_not h
      exact ⟨i, k, h1, by omega, h3⟩
    · obtain ⟨k, hk, h3⟩ := List.all_eq_false.1 h
      exact ⟨n, k, List.mem_range.1 hk, Nat.lt_succ_self _, by simpa using h3⟩
theorem unlike_nodup {l : List UInt8} (h : unlikeTo l l.length = true) : l.Nodup := by
  rw [List.nodup_iff_pairwise_ne, List.pairwise_iff_getElem]
  intro i j hi hj hij e
  have h1 := unlike_pair h j i hij hj
  simp [List.getD_eq_getElem?_getD, List.getElem?_eq_getElem hi, List.getElem?_eq_getElem hj] at h1
  exact h1 e.symm
end Go.Proofs.Ytgakeecibofiiaa
