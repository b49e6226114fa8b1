/-
  Before mend is walked: where shards are missing, which ones are used, what they come to.
-/
import Derived.Test.YtpbkabgjpieggaaMendC
namespace Go.Proofs.Ytpbkabgjpieggaa
open Go.RowKit

/-- Where shards of data are missing; where shards more are there; which of them are used; their bytes. -/
def gapsL (k : Nat) (S : List (Option (List UInt8))) : List Nat := placesTo (S.take k) true k
def hereL (k m : Nat) (S : List (Option (List UInt8))) : List Nat := placesTo (S.drop k) false m
def usedU (k m : Nat) (S : List (Option (List UInt8))) : List Nat := (hereL k m S).take (gapsL k S).length
def rowsU (k : Nat) (S : List (Option (List UInt8))) (U : List Nat) : List (List UInt8) := U.map (fun u => (S.getD (k + u) none).getD [])
/-- Data, mended. -/
def mendL (k m : Nat) (S : List (Option (List UInt8))) (D : List (List UInt8)) : List (List UInt8) :=
  mendTo D (foundL k m (usedU k m S) (gapsL k S) (lackTo (appL (usedL k m (usedU k m S)) D) (rowsU k S (usedU k m S)) (gapsL k S).length)) (gapsL k S) (gapsL k S).length
section
variable {k m q : Nat} {S : List (Option (List UInt8))}
theorem gaps_lt : ∀ c ∈ gapsL k S, c < k := fun _ hc => (placesTo_mem.1 hc).1
theorem here_lt : ∀ u ∈ hereL k m S, u < m := fun _ hu => (placesTo_mem.1 hu).1
theorem here_nodup : (hereL k m S).Nodup := filter_nodup List.nodup_range _
theorem gaps_le : (gapsL k S).length ≤ k := placesTo_le _ _ _
theorem here_le : (hereL k m S).length ≤ m := placesTo_le _ _ _
theorem used_mem : ∀ u ∈ usedU k m S, u ∈ hereL k m S := fun _ hu => List.mem_of_mem_take hu
theorem used_lt : ∀ u ∈ usedU k m S, u < m := fun u hu => here_lt u (used_mem u hu)
theorem used_nodup : (usedU k m S).Nodup := List.Nodup.sublist (List.take_sublist _ _) here_nodup
theorem used_len (h : (gapsL k S).length ≤ (hereL k m S).length) : (usedU k m S).length = (gapsL k S).length := by rw [usedU, List.length_take]; omega
theorem gaps_filter : (List.range k).filter (fun i => (S.getD i none).isNone) = gapsL k S := by
  unfold gapsL placesTo
  apply List.filter_congr
  intro i hi
  have hik := List.mem_range.1 hi
  rw [List.getD_eq_getElem?_getD, List.getD_eq_getElem?_getD, List.getElem?_take_of_lt hik]
  cases (S[i]?.getD none).isNone <;> rfl
theorem here_some (hl : S.length = k + m) {u : Nat} (hu : u ∈ hereL k m S) : ∃ r, S[k + u]? = some (some r) := by
  have h1 := placesTo_mem.1 hu
  have h2 : (S.getD (k + u) none).isNone = false := by rw [← h1.2, List.getD_eq_getElem?_getD, List.getD_eq_getElem?_getD, List.getElem?_drop]
  rw [List.getD_eq_getElem?_getD, List.getElem?_eq_getElem (by omega)] at h2
  rw [List.getElem?_eq_getElem (by omega)]
  cases h3 : S[k + u]'(by omega) with
  | none => rw [h3] at h2; cases h2
  | some r => exact ⟨r, rfl⟩
theorem rowsU_at {U : List Nat} {t u : Nat} {r : List UInt8} (hu : U[t]? = some u) (hr : S[k + u]? = some (some r)) : (rowsU k S U).getD t [] = r := by
  rw [rowsU, List.getD_eq_getElem?_getD, List.getElem?_map, hu]
  simp [List.getD_eq_getElem?_getD, hr]
theorem rowsU_lev (hl : S.length = k + m) (hrow : ∀ (i : Nat) (r : List UInt8), S[i]? = some (some r) → r.length = q) {U : List Nat} (hU : ∀ u ∈ U, u ∈ hereL k m S) : Lev U.length q (rowsU k S U) := ⟨by simp [rowsU], fun r hr => by
  obtain ⟨u, hu, rfl⟩ := List.mem_map.1 hr
  obtain ⟨r, h1⟩ := here_some hl (hU u hu)
  rw [List.getD_eq_getElem?_getD, h1]
  exact hrow _ r h1⟩
end
section
variable {w w' : World} {g n b : Nat} {N : Nat → Prop} {M : List (List UInt8)}
/-- Rows are left where another block is written. -/
theorem RowsN.grown (h : RowsN w g n N M) (hg : w.grownBy w' (some b)) (hb : ¬ N b) (hne : g ≠ b) : RowsN w' g n N M := by
  obtain ⟨cur, h1, h2, h3, h4⟩ := h
  refine ⟨cur, (hg.block g h1.lt (fun e => by injection e with e; exact hne e)).trans h1, h2, h3, fun i l hl => ?_⟩
  obtain ⟨Ai, ci, h5, h6⟩ := h4 i l hl
  exact ⟨Ai, ci, h5, h6.grown hg hb⟩
end
/-- A number that was told. -/
theorem ints_at {w : World} {N : Nat → Prop} {A : Option Addr} {n c : Nat} {l : List Nat} (h : Lies w N A n c (ics (intsN l))) {t u : Nat} (hu : l[t]? = some u) : ∃ b off, A = some ⟨b, off, none⟩ ∧ N b ∧ b < w.heap.size ∧ w.cell? ⟨b, off + t, none⟩ = some (.int .i64 (u : Int)) :=
  h.at (j := t) (u := .int .i64 (u : Int)) (by simp [ics, intsN, hu])
theorem ints_take (l : List Nat) (t : Nat) : (ics (intsN l)).take t = ics (intsN (l.take t)) := by simp [ics, intsN, List.map_take]
theorem rows_used {k m : Nat} {U : List Nat} (hU : ∀ u ∈ U, u < m) (hk : 1 ≤ k ∧ k ≤ 255) (hm : 1 ≤ m ∧ m ≤ 255) (h1 : 1 ≤ U.length ∧ U.length ≤ 255) : rowsR (matBy m k (cauF k)) (intsN U) = (usedL k m U, 0) := by
  have hok : okIdx (matBy m k (cauF k)).length (intsN U) := fun i hi => by
    obtain ⟨u, hu, rfl⟩ := List.mem_map.1 hi
    have := hU u hu
    rw [matBy_length]
    exact ⟨by omega, by omega⟩
  rw [rowsR, if_pos ⟨(cau_right k m hk hm).1, by simpa [intsN] using h1, hok⟩, usedL]
theorem rows_cols {k m : Nat} {U G : List Nat} (hU : ∀ u ∈ U, u < m) (hk : 1 ≤ k ∧ k ≤ 255) (h1 : 1 ≤ U.length ∧ U.length ≤ 255) (hG : ∀ c ∈ G, c < k) (h2 : 1 ≤ G.length ∧ G.length ≤ 255) : rowsR (turnL (usedL k m U)) (intsN G) = (pickL (turnL (usedL k m U)) (intsN G), 0) := by
  have h3 := used_right (m := m) hU hk h1
  have hok : okIdx (turnL (usedL k m U)).length (intsN G) := fun i hi => by
    obtain ⟨c, hc, rfl⟩ := List.mem_map.1 hi
    have := hG c hc
    rw [(turn_lev h3.1).1, h3.2]
    exact ⟨by omega, by omega⟩
  rw [rowsR, if_pos ⟨(turn_is h3.1).1, by simpa [intsN] using h2, hok⟩]
theorem back_part {k m : Nat} {U G : List Nat} (qf : Nat → Bool) (hU : ∀ u ∈ U, u < m) (hnd : U.Nodup) (hk : 1 ≤ k ∧ k ≤ 255) (hs : k + m ≤ 256) (h1 : 1 ≤ U.length ∧ U.length ≤ 255) (hGe : (List.range k).filter qf = G) (hl : U.length = G.length) : backR (partL k m U G) = (backL (partL k m U G) G.length, 0) := by
  have hG : ∀ c ∈ G, c < k := fun c hc => by rw [← hGe, List.mem_filter] at hc; exact List.mem_range.1 hc.1
  have hfull := part_full (U := U) (m := m) qf hU hnd hk hs h1 (by rw [hGe]; exact hl)
  rw [hGe] at hfull
  have hlev := part_lev (m := m) hU hk h1 hG hl
  rw [backR, if_pos hfull.1, if_neg (by rw [hfull.2, hlev.1]; omega), hlev.1]
end Go.Proofs.Ytpbkabgjpieggaa
