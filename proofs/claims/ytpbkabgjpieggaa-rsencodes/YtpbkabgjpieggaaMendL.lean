/-
  What missing shards come to, in plain mathematics: a square part of a Cauchy matrix may be turned back.
-/
import Derived.Test.YtpbkabgjpieggaaPlaces
namespace Go.Proofs.Ytpbkabgjpieggaa
open Gf (mul inv sum lsum idm mm Eqm IsRank Inv)

theorem picks_lev {M : List (List UInt8)} {n L : Nat} (h : Lev n L M) {U : List Nat} (hU : ∀ u ∈ U, u < n) : Lev U.length L (pickL M (intsN U)) := ⟨by simp [pickL, intsN], fun r hr => by
  obtain ⟨x, hx, rfl⟩ := List.mem_map.1 hr
  obtain ⟨p, hp, rfl⟩ := List.mem_map.1 hx
  obtain ⟨s, _, h2, h3⟩ := h.get (hU p hp)
  rw [Int.toNat_natCast, h2, h3]⟩
theorem picks_at {M : List (List UInt8)} {U : List Nat} {i j : Nat} (hi : i < U.length) : at2 (pickL M (intsN U)) i j = at2 M (U.getD i 0) j := by
  have h1 : (pickL M (intsN U)).getD i [] = M.getD (U.getD i 0) [] := by
    simp [pickL, intsN, List.getD_eq_getElem?_getD, List.getElem?_eq_getElem hi]
  unfold at2
  rw [h1]
theorem getD_mem {U : List Nat} {i : Nat} (hi : i < U.length) : U.getD i 0 ∈ U := by
  rw [List.getD_eq_getElem?_getD, List.getElem?_eq_getElem hi]; exact List.getElem_mem hi
/-- The matrix's rows that are used. -/
def usedL (k m : Nat) (U : List Nat) : List (List UInt8) := pickL (matBy m k (cauF k)) (intsN U)
/-- Their square part. -/
def partL (k m : Nat) (U G : List Nat) : List (List UInt8) := turnL (pickL (turnL (usedL k m U)) (intsN G))
section
variable {k m : Nat} {U : List Nat}
theorem used_lev (hU : ∀ u ∈ U, u < m) : Lev U.length k (usedL k m U) := picks_lev (matBy_lev m k _) hU
theorem used_right (hU : ∀ u ∈ U, u < m) (hk : 1 ≤ k ∧ k ≤ 255) (h1 : 1 ≤ U.length ∧ U.length ≤ 255) : RightM (usedL k m U) ∧ colsOf (usedL k m U) = k := lev_right (used_lev hU) h1 hk
theorem used_at (hU : ∀ u ∈ U, u < m) {i j : Nat} (hi : i < U.length) (hj : j < k) : at2 (usedL k m U) i j = rowP k (k + U.getD i 0) j := by
  rw [usedL, picks_at hi, matBy_at2 (hU _ (getD_mem hi)) hj, rowP, if_neg (by omega), cauF, Nat.add_comm]
theorem cols_lev (hU : ∀ u ∈ U, u < m) (hk : 1 ≤ k ∧ k ≤ 255) (h1 : 1 ≤ U.length ∧ U.length ≤ 255) {G : List Nat} (hG : ∀ c ∈ G, c < k) : Lev G.length U.length (pickL (turnL (usedL k m U)) (intsN G)) := by
  have h2 := used_right (m := m) hU hk h1
  have h3 := turn_lev h2.1
  rw [h2.2, (used_lev hU).1] at h3
  exact picks_lev h3 hG
theorem part_lev (hU : ∀ u ∈ U, u < m) (hk : 1 ≤ k ∧ k ≤ 255) (h1 : 1 ≤ U.length ∧ U.length ≤ 255) {G : List Nat} (hG : ∀ c ∈ G, c < k) (hl : U.length = G.length) : Lev G.length G.length (partL k m U G) := by
  have h2 := cols_lev (m := m) hU hk h1 hG
  have h3 := lev_right h2 (by omega) h1
  have h4 := turn_lev h3.1
  rw [h3.2, h2.1, hl] at h4
  exact h4
theorem part_at (hU : ∀ u ∈ U, u < m) (hk : 1 ≤ k ∧ k ≤ 255) (h1 : 1 ≤ U.length ∧ U.length ≤ 255) {G : List Nat} (hG : ∀ c ∈ G, c < k) (hl : U.length = G.length) {i j : Nat} (hi : i < G.length) (hj : j < G.length) : at2 (partL k m U G) i j = rowP k (k + U.getD i 0) (G.getD j 0) := by
  have h2 := cols_lev (m := m) hU hk h1 hG
  have h3 := lev_right h2 (by omega) h1
  have h5 := used_right (m := m) hU hk h1
  have hj' := hG _ (getD_mem hj)
  rw [partL, turn_at h3.1 (by rw [h3.2]; omega) (by rw [h2.1]; exact hj), picks_at hj, turn_at h5.1 (by rw [h5.2]; exact hj') (by rw [(used_lev hU).1]; omega), used_at hU (by omega) hj']
theorem lsum_getD (G : List Nat) (f : Nat → UInt8) : lsum G f = sum G.length (fun t => f (G.getD t 0)) := by
  induction G with
  | nil => rfl
  | cons a G ih =>
    rw [Gf.lsum_cons, List.length_cons, Gf.sum_front, ih]
    rfl
/-- A sum over all columns of what is 0 outside of G. -/
theorem sum_gaps (qf : Nat → Bool) (k : Nat) (f : Nat → UInt8) (h : ∀ j, j < k → qf j = false → f j = 0) : sum k f = sum ((List.range k).filter qf).length (fun t => f (((List.range k).filter qf).getD t 0)) := by
  rw [← lsum_getD, sum, lsum_filter qf f (List.range k) (fun x hx => h x (List.mem_range.1 hx))]
theorem part_inj (qf : Nat → Bool) (hU : ∀ u ∈ U, u < m) (hnd : U.Nodup) (hk : 1 ≤ k ∧ k ≤ 255) (hs : k + m ≤ 256) (h1 : 1 ≤ U.length ∧ U.length ≤ 255) (hl : U.length = ((List.range k).filter qf).length) (z : Nat → UInt8) (hz : ∀ i, i < ((List.range k).filter qf).length → sum ((List.range k).filter qf).length (fun j => mul (at2 (partL k m U ((List.range k).filter qf)) i j) (z j)) = 0) : ∀ i, i < ((List.range k).filter qf).length → z i = 0 := by
  have hG : ∀ c ∈ (List.range k).filter qf, c < k := fun c hc => by rw [List.mem_filter] at hc; exact List.mem_range.1 hc.1
  have hGq : ∀ c ∈ (List.range k).filter qf, qf c = true := fun c hc => by rw [List.mem_filter] at hc; exact hc.2
  obtain ⟨G, hGe⟩ : ∃ G, (List.range k).filter qf = G := ⟨_, rfl⟩
  have hGn : G.Nodup := by rw [← hGe]; exact filter_nodup List.nodup_range qf
  have hparts := filter_parts qf (List.range k)
  rw [hGe, List.length_range] at hparts
  have hsum : ∀ f : Nat → UInt8, (∀ j, j < k → qf j = false → f j = 0) → sum k f = sum G.length (fun t => f (G.getD t 0)) := fun f h => by rw [← hGe]; exact sum_gaps qf k f h
  rw [hGe] at hG hGq hl hz ⊢
  -- what stands at a column
  let Z : Nat → UInt8 := fun c => if qf c then z (G.idxOf c) else 0
  have hZ : ∀ t, t < G.length → Z (G.getD t 0) = z t := fun t ht => by
    have h2 := hGq _ (getD_mem ht)
    show (if qf (G.getD t 0) then z (G.idxOf (G.getD t 0)) else 0) = z t
    rw [if_pos h2]
    congr 1
    rw [List.getD_eq_getElem?_getD, List.getElem?_eq_getElem ht]
    exact hGn.idxOf_getElem t ht
  have hall := picked_inj (cols := k) (N := k + m) (l := (List.range k).filter (fun x => !qf x) ++ U.map (fun u => k + u)) ?_ ?_ ?_ hs (by omega) Z ?_
  · intro i hi
    rw [← hZ i hi]
    exact hall _ (hG _ (getD_mem hi))
  · rw [List.nodup_append]
    refine ⟨filter_nodup List.nodup_range _, ?_, fun a ha b hb => ?_⟩
    · exact List.Pairwise.map (fun u => k + u) (fun a b (h : a ≠ b) (e : k + a = k + b) => h (by omega)) hnd
    · rw [List.mem_filter] at ha
      obtain ⟨u, _, rfl⟩ := List.mem_map.1 hb
      have := List.mem_range.1 ha.1
      omega
  · rw [List.length_append, List.length_map]
    omega
  · intro p hp
    rcases List.mem_append.1 hp with h2 | h2
    · rw [List.mem_filter] at h2
      have := List.mem_range.1 h2.1
      omega
    · obtain ⟨u, hu, rfl⟩ := List.mem_map.1 h2
      have := hU u hu
      omega
  · intro p hp
    rcases List.mem_append.1 hp with h2 | h2
    · rw [List.mem_filter] at h2
      have hpk := List.mem_range.1 h2.1
      rw [Gf.sum_one hpk (fun j _ hj => by rw [rowP, if_pos hpk, oneF, if_neg (fun e => hj e.symm), Gf.zero_mul])]
      show mul _ (if qf p then z (G.idxOf p) else 0) = 0
      rw [if_neg (by simpa using h2.2), Gf.mul_zero]
    · obtain ⟨u, hu, rfl⟩ := List.mem_map.1 h2
      obtain ⟨i, hi⟩ := List.getElem?_of_mem hu
      have hil := (List.getElem?_eq_some_iff.1 hi).1
      have hiu : U.getD i 0 = u := by simp [List.getD_eq_getElem?_getD, hi]
      rw [hsum _ (fun j _ hj => by show mul _ (if qf j then z (G.idxOf j) else 0) = 0; rw [if_neg (by simp [hj]), Gf.mul_zero])]
      rw [← hz i (by omega)]
      exact Gf.sum_congr (fun t ht => by rw [hZ t ht, part_at hU hk h1 hG hl (by omega) ht, hiu])
theorem part_full (qf : Nat → Bool) (hU : ∀ u ∈ U, u < m) (hnd : U.Nodup) (hk : 1 ≤ k ∧ k ≤ 255) (hs : k + m ≤ 256) (h1 : 1 ≤ U.length ∧ U.length ≤ 255) (hl : U.length = ((List.range k).filter qf).length) :
    (RightM (partL k m U ((List.range k).filter qf)) ∧ colsOf (partL k m U ((List.range k).filter qf)) = (partL k m U ((List.range k).filter qf)).length) ∧ rankL (partL k m U ((List.range k).filter qf)) = ((List.range k).filter qf).length := by
  have hG : ∀ c ∈ (List.range k).filter qf, c < k := fun c hc => by rw [List.mem_filter] at hc; exact List.mem_range.1 hc.1
  have hlev := part_lev (m := m) hU hk h1 hG hl
  have hR := lev_right hlev (by omega) (by omega)
  refine ⟨⟨hR.1, by rw [hR.2, hlev.1]⟩, ?_⟩
  have h2 := rank_right hR.1
  rw [hR.2, hlev.1] at h2
  exact h2.unique (Gf.inv_of_inj (part_inj qf hU hnd hk hs h1 hl)).1
end
end Go.Proofs.Ytpbkabgjpieggaa
