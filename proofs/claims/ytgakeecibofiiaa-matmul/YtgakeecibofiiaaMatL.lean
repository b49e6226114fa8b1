/-
  Matrices as lists of rows, and as functions: products, turned ones, ranks.
-/
import Derived.Test.YtgakeecibofiiaaMulM
import Derived.Test.YtgakeecibofiiaaRankM
import Derived.Test.YtgakeecibofiiaaRefMulM
namespace Go.Proofs.Ytgakeecibofiiaa
open Gf (mul inv sum idm mm Eqm IsRank tr)

theorem row_ext {r s : List UInt8} {L : Nat} (hr : r.length = L) (hs : s.length = L) (h : ∀ j, j < L → r.getD j 0 = s.getD j 0) : r = s := by
  apply List.ext_getElem (by rw [hr, hs])
  intro j h1 h2
  have := h j (by omega)
  simpa [List.getD_eq_getElem?_getD, List.getElem?_eq_getElem h1, List.getElem?_eq_getElem h2] using this
theorem mat_ext {n L : Nat} {M N : List (List UInt8)} (hM : Lev n L M) (hN : Lev n L N) (h : ∀ i, i < n → ∀ j, j < L → at2 M i j = at2 N i j) : M = N := by
  apply List.ext_getElem (by rw [hM.1, hN.1])
  intro i h1 h2
  obtain ⟨r, hr, hr2, hr3⟩ := hM.get (show i < n by rw [← hM.1]; exact h1)
  obtain ⟨s, hs, hs2, hs3⟩ := hN.get (show i < n by rw [← hM.1]; exact h1)
  rw [List.getElem?_eq_getElem h1] at hr
  rw [List.getElem?_eq_getElem h2] at hs
  rw [Option.some.inj hr, Option.some.inj hs]
  refine row_ext hr3 hs3 (fun j hj => ?_)
  have := h i (by rw [← hM.1]; exact h1) j hj
  unfold at2 at this
  rwa [hr2, hs2] at this
theorem matBy_lev (n L : Nat) (F : Nat → Nat → UInt8) : Lev n L (matBy n L F) := ⟨matBy_length _ _ _, fun r hr => by
  obtain ⟨i, _, rfl⟩ := List.mem_map.1 hr
  exact byRule_length _ _⟩
theorem matBy_at2 {n L : Nat} {F : Nat → Nat → UInt8} {i j : Nat} (hi : i < n) (hj : j < L) : at2 (matBy n L F) i j = F i j := at2_of (matBy_at n L F hi) (byRule_at L (F i) j hj)
theorem lev_right {n L : Nat} {M : List (List UInt8)} (h : Lev n L M) (hn : 1 ≤ n ∧ n ≤ 255) (hL : 1 ≤ L ∧ L ≤ 255) : RightM M ∧ colsOf M = L := by
  have hc : colsOf M = L := by
    cases M with
    | nil => have := h.1; simp at this; omega
    | cons a t => exact h.2 a (List.mem_cons_self ..)
  refine ⟨⟨by rw [h.1]; exact hn.1, by rw [h.1]; exact hn.2, fun r hr => ⟨?_, ?_⟩⟩, hc⟩
  · rw [h.2 r hr]; exact hc.symm
  · rw [h.2 r hr]; exact hL
theorem right_dims {M : List (List UInt8)} (h : RightM M) : (1 ≤ M.length ∧ M.length ≤ 255) ∧ (1 ≤ colsOf M ∧ colsOf M ≤ 255) := ⟨⟨h.1, h.2.1⟩, right_cols h⟩

theorem acc_at (X : List (List UInt8)) (q : Nat) (r : List UInt8) (j : Nat) : ∀ t, (accTo X q r t).getD j 0 = sum t (fun s => mul (r.getD s 0) (at2 X s j))
  | 0 => by
    show (List.replicate q (0 : UInt8)).getD j 0 = 0
    rw [List.getD_eq_getElem?_getD, List.getElem?_replicate]
    split <;> rfl
  | t + 1 => by
    rw [accTo, Gf.padd_get, acc_at X q r j t, getD_map_mul, Gf.sum_succ, Gf.mul_comm]
    rfl
theorem app_lev {n m q : Nat} {M X : List (List UInt8)} (hM : M.length = n) (hX : Lev m q X) (hm : 1 ≤ m) : Lev n q (appL M X) := by
  have hq : (X.headD []).length = q := by
    cases X with
    | nil => have := hX.1; simp at this; omega
    | cons a t => exact hX.2 a (List.mem_cons_self ..)
  refine ⟨by simpa [appL] using hM, fun r hr => ?_⟩
  obtain ⟨s, _, rfl⟩ := List.mem_map.1 hr
  rw [hq, hX.1]
  exact accTo_length hX s m (Nat.le_refl _)
theorem app_at {M X : List (List UInt8)} {i : Nat} (hi : i < M.length) (j : Nat) : at2 (appL M X) i j = mm X.length (at2 M) (at2 X) i j := by
  have h1 : (appL M X).getD i [] = accTo X (X.headD []).length (M.getD i []) X.length := by
    simp [appL, List.getD_eq_getElem?_getD, List.getElem?_map, List.getElem?_eq_getElem hi]
  show ((appL M X).getD i []).getD j 0 = _
  rw [h1, acc_at]
  rfl
theorem rowL_at {N : List (List UInt8)} {r : List UInt8} {q j : Nat} (hj : j < q) : (rowL N r q).getD j 0 = sum N.length (fun t => mul (r.getD t 0) (at2 N t j)) := by
  simp [rowL, List.getD_eq_getElem?_getD, hj, placeL, at2]
/-- The reference's product is the same. -/
theorem app_mul {n m q : Nat} {M X : List (List UInt8)} (hM : M.length = n) (hX : Lev m q X) (hm : 1 ≤ m) : appL M X = mulL M X := by
  have hq : (X.headD []).length = q := by
    cases X with
    | nil => have := hX.1; simp at this; omega
    | cons a t => exact hX.2 a (List.mem_cons_self ..)
  have h2 : Lev n q (mulL M X) := by
    refine ⟨by simpa [mulL] using hM, fun r hr => ?_⟩
    obtain ⟨s, _, rfl⟩ := List.mem_map.1 hr
    rw [hq]
    simp [rowL]
  refine mat_ext (app_lev hM hX hm) h2 (fun i hi j hj => ?_)
  rw [app_at (by omega)]
  have h1 : (mulL M X).getD i [] = rowL X (M.getD i []) q := by
    simp [mulL, List.getD_eq_getElem?_getD, List.getElem?_map, List.getElem?_eq_getElem (show i < M.length by omega), ← hq]
  show _ = ((mulL M X).getD i []).getD j 0
  rw [h1, rowL_at hj]
  rfl

theorem turn_right {M : List (List UInt8)} (h : RightM M) : turnL M = matBy (colsOf M) M.length (fun i j => at2 M j i) := by rw [turnL, if_pos h]
theorem turn_lev {M : List (List UInt8)} (h : RightM M) : Lev (colsOf M) M.length (turnL M) := by
  rw [turn_right h]
  exact matBy_lev _ _ _
theorem turn_is {M : List (List UInt8)} (h : RightM M) : RightM (turnL M) ∧ colsOf (turnL M) = M.length := lev_right (turn_lev h) (right_dims h).2 (right_dims h).1
theorem turn_at {M : List (List UInt8)} (h : RightM M) {i j : Nat} (hi : i < colsOf M) (hj : j < M.length) : at2 (turnL M) i j = at2 M j i := by
  rw [turn_right h]
  exact matBy_at2 hi hj
theorem turn_twice {M : List (List UInt8)} (h : RightM M) : turnL (turnL M) = M := by
  have h1 := turn_is h
  have h2 := turn_lev h1.1
  rw [h1.2, (turn_lev h).1] at h2
  refine mat_ext h2 (right_lev h) (fun i hi j hj => ?_)
  rw [turn_at h1.1 (by rw [h1.2]; exact hi) (by rw [(turn_lev h).1]; exact hj), turn_at h hj hi]
theorem rank_turn {M : List (List UInt8)} (h : RightM M) : rankL (turnL M) = rankL M := by
  have h1 := turn_is h
  have h2 := rank_right h1.1
  rw [h1.2, (turn_lev h).1] at h2
  have h3 := (rank_right h).turn
  exact h2.unique (h3.congr (fun i hi j hj => (turn_at h hi hj).symm))
theorem fit_dims {M X : List (List UInt8)} (h : fitA M X) (hX : RightM X) : RightM (appL M X) ∧ colsOf (appL M X) = colsOf X ∧ Lev M.length (colsOf X) (appL M X) := by
  have h1 := app_lev rfl (right_lev hX) hX.1 (M := M)
  have h2 := lev_right h1 (right_dims h.1).1 (right_dims hX).2
  exact ⟨h2.1, h2.2, h1⟩
theorem turn_fit {M X : List (List UInt8)} (h : fitA M X) (hX : RightM X) : fitA (turnL X) (turnL M) := ⟨(turn_is hX).1, by rw [(turn_lev h.1).1, (turn_is hX).2]; exact h.2.1.symm, right_level (turn_is h.1).1⟩
/-- A product that is turned is that of the two turned, the other way round. -/
theorem turn_app {M X : List (List UInt8)} (h : fitA M X) (hX : RightM X) : turnL (appL M X) = appL (turnL X) (turnL M) := by
  obtain ⟨h1, h2, h3⟩ := fit_dims h hX
  have h4 := turn_lev h1
  rw [h2, h3.1] at h4
  have hML := turn_lev h.1
  have hXL := turn_lev hX
  have h5 := app_lev hXL.1 hML (right_cols h.1).1
  refine mat_ext h4 h5 (fun i hi j hj => ?_)
  rw [turn_at h1 (by rw [h2]; exact hi) (by rw [h3.1]; exact hj), app_at hj, app_at (by rw [hXL.1]; exact hi), hML.1, h.2.1]
  exact Gf.sum_congr (fun k hk => by rw [turn_at hX hi (by rw [h.2.1]; exact hk), turn_at h.1 hk hj, Gf.mul_comm])
end Go.Proofs.Ytgakeecibofiiaa
