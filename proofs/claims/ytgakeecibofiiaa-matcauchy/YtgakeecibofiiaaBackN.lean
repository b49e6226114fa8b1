/-
  Back of package mat: where it is refused; what it tells.
-/
import Derived.Test.YtgakeecibofiiaaBackM
import Derived.Test.YtgakeecibofiiaaMatL
namespace Go.Proofs.Ytgakeecibofiiaa
open Go.RowKit Go.Shelf

set_option maxRecDepth 100000 in
set_option maxHeartbeats 1000000 in
theorem back_no (P : Option Addr) (w : World) (A : Option Addr) (n c : Nat) (M : List (List UInt8)) (hM : Mtx w A n c M) (hn : n ≤ 2000) (hno : ¬ (RightM M ∧ colsOf M = n)) : Calls Try.prog 27 #[.pointer P, .slice A n c] w (GivesE w [] 2) := by
  have hl := hM.len
  have hs := size_says w A n c M hM hn
  by_cases hr : RightM M
  · rw [sizeL, if_pos hr, hl] at hs
    have hne : ((n : Int) != (colsOf M : Int)) = true := by
      have : colsOf M ≠ n := fun e => hno ⟨hr, e⟩
      simp
      omega
    have HS := Lib.hid hs
    have HO := Lib.hid (fun W => one_yes n (by have := hr.1; have := hr.2.1; omega) W)
    generalize colsOf M = m at HS hne
    clear hM hs hr hno
    go_enter Try.func27, Try.ntmps27
    go_wp2_with (first
      | (go_at_call 17; refine HS.out.mono ?_; rintro e w1 ⟨rfl, hb1⟩; have HB1 := Lib.hid hb1; clear hb1)
      | (go_at_call 23; refine (HO.out _).mono ?_; rintro e w3 ⟨A3, n3, c3, rfl, hm3, hb3⟩; have hc7 : w3.cell? ⟨w1.heap.size, 0, none⟩ = some (.int .i64 (m : Int)) := (hb3.cell (p := ⟨w1.heap.size, 0, none⟩) (by simp)).trans (cell_one_new w1 _ _ 0 _ rfl); have HB3 := Lib.hid (show Below w.heap.size w w3 from HB1.out.trans ((((Below.refl _ w1).alloc (Nat.le_refl _) (.cells #[.int .i64 (m : Int)] 3)).trans (hb3.mono (by simp))).mono HB1.out.size)); clear hm3 hb3))
    go_ret2
    exact ⟨_, _, _, rfl, Mtx.nil _ _ _, HB3.out⟩
  · rw [sizeL, if_neg hr] at hs
    have HS := Lib.hid hs
    have HO := Lib.hid (fun W => one_no 0 (by omega) W)
    clear hM hs hr hno
    go_enter Try.func27, Try.ntmps27
    go_wp2_with (first
      | (go_at_call 17; refine HS.out.mono ?_; rintro e w1 ⟨rfl, hb1⟩; have HB1 := Lib.hid hb1; clear hb1)
      | (go_at_call 23; refine (HO.out _).mono ?_; rintro e w3 ⟨A3, n3, c3, rfl, hm3, hb3⟩; have HB3 := Lib.hid (show Below w.heap.size w w3 from HB1.out.trans ((((Below.refl _ w1).alloc (Nat.le_refl _) (.cells #[.int .i64 0] 3)).trans (hb3.mono (by simp))).mono HB1.out.size)); clear hm3 hb3))
    go_ret2
    exact ⟨_, _, _, rfl, Mtx.nil _ _ _, HB3.out⟩

section
open Gf (mul inv sum idm mm Eqm IsRank Inv)
theorem beside_at {M : List (List UInt8)} {n : Nat} (h : Lev n n M) {i j : Nat} (hi : i < n) : at2 (besideL M n n) i j = if j < n then at2 M i j else (byRule n (oneF i)).getD (j - n) 0 := by
  obtain ⟨r, _, h2, h3⟩ := h.get hi
  have h4 : (besideL M n n).getD i [] = r ++ byRule n (oneF i) := by
    rw [← h2]
    simp [besideL, List.getD_eq_getElem?_getD, hi]
  unfold at2
  rw [h4, h2]
  simp only [List.getD_eq_getElem?_getD]
  by_cases hj : j < n
  · rw [if_pos hj, List.getElem?_append_left (by omega)]
  · rw [if_neg hj, List.getElem?_append_right (by omega), h3]
theorem beside_one {M : List (List UInt8)} {n : Nat} (h : Lev n n M) {i m : Nat} (hi : i < n) (hm : m < n) : at2 (besideL M n n) i (n + m) = idm i m := by
  rw [beside_at h hi, if_neg (by omega), show n + m - n = m by omega, List.getD_eq_getElem?_getD, byRule_at n _ m hm]
  rfl
theorem beside_rank {M : List (List UInt8)} {n : Nat} (h : Lev n n M) : IsRank n n (at2 M) (sweepTo (besideL M n n) n).2 :=
  (sweep_rank (beside_lev h) n).congr (fun i hi j hj => by rw [beside_at h hi, if_pos hj])
theorem back_lev (M : List (List UInt8)) (n : Nat) : Lev n n (backL M n) := matBy_lev _ _ _
/-- What turns it back does. -/
theorem back_inv {M : List (List UInt8)} {n : Nat} (h : Lev n n M) (hd : (sweepTo (besideL M n n) n).2 = n) : Inv n (at2 (backL M n)) (at2 M) := by
  have hL := beside_lev h
  obtain ⟨c, hc⟩ := sweep_swept hL n
  rw [hd] at hc
  have hI := swept_full hc
  have hB := (sweep_both hL (n + n) n).1
  refine Inv.of (fun i hi j hj => ?_)
  obtain ⟨e, he⟩ := hB i hi
  have h1 : ∀ m, m < n → at2 (backL M n) i m = e m := fun m hm => by
    rw [backL, matBy_at2 hi hm, he (n + m) (by omega)]
    have h2 : sum n (fun k => mul (e k) (at2 (besideL M n n) k (n + m))) = sum n (fun k => mul (e k) (idm k m)) := Gf.sum_congr (fun k hk => by rw [beside_one h hk hm])
    rw [h2]
    exact Gf.mm_id n (fun _ => e) 0 m hm
  have h3 := he j (by omega)
  rw [hI i hi j hj] at h3
  rw [h3]
  exact Gf.sum_congr (fun k hk => by rw [h1 k hk, beside_at h hk, if_pos hj])
end
/-- What Back tells. -/
def backR (M : List (List UInt8)) : List (List UInt8) × Int :=
  if RightM M ∧ colsOf M = M.length then if rankL M < M.length then ([], 18) else (backL M M.length, 0) else ([], 2)
theorem square_lev {M : List (List UInt8)} (h : RightM M ∧ colsOf M = M.length) : Lev M.length M.length M := by
  have := right_lev h.1
  rwa [h.2] at this
theorem square_rank {M : List (List UInt8)} (h : RightM M ∧ colsOf M = M.length) : (sweepTo (besideL M M.length M.length) M.length).2 = rankL M := by
  have h1 := beside_rank (square_lev h)
  have h2 := rank_right h.1
  rw [h.2] at h2
  exact h1.unique h2
theorem back_says (P : Option Addr) (w : World) (A : Option Addr) (n c : Nat) (M : List (List UInt8)) (hM : Mtx w A n c M) (hn : n ≤ 2000) : Calls Try.prog 27 #[.pointer P, .slice A n c] w (GivesE w (backR M).1 (backR M).2) := by
  have hl := hM.len
  unfold backR
  by_cases h : RightM M ∧ colsOf M = M.length
  · rw [if_pos h]
    have h1 := back_square P w A n c M hM h.1 (by rw [h.2]; exact hl)
    rw [← hl, square_rank h] at h1
    rw [← hl]
    by_cases hd : rankL M < M.length
    · rw [if_pos hd] at h1 ⊢
      exact h1
    · rw [if_neg hd] at h1 ⊢
      exact h1
  · rw [if_neg h]
    exact back_no P w A n c M hM hn (fun h2 => h ⟨h2.1, by rw [h2.2, hl]⟩)
/-- A matrix of full rank, turned back: both ways round, and again. -/
theorem back_good {M : List (List UInt8)} (h : RightM M ∧ colsOf M = M.length) (hr : ¬ rankL M < M.length) :
    (RightM (backL M M.length) ∧ colsOf (backL M M.length) = M.length ∧ (backL M M.length).length = M.length) ∧ appL M (backL M M.length) = matBy M.length M.length oneF ∧ appL (backL M M.length) M = matBy M.length M.length oneF ∧ backR (backL M M.length) = (M, 0) := by
  have hlev := square_lev h
  have hle : rankL M ≤ M.length := by
    have := (rank_right h.1).le_rows
    exact this
  have hd : (sweepTo (besideL M M.length M.length) M.length).2 = M.length := by rw [square_rank h]; omega
  have hI := back_inv hlev hd
  have hdims := (right_dims h.1).1
  obtain ⟨n, hn⟩ : ∃ n, M.length = n := ⟨_, rfl⟩
  rw [hn] at hlev hI hdims hle hd ⊢
  have hXL := back_lev M n
  have hXR := lev_right hXL hdims hdims
  obtain ⟨X, hX⟩ : ∃ X, backL M n = X := ⟨_, rfl⟩
  rw [hX] at hI hXL hXR ⊢
  refine ⟨⟨hXR.1, hXR.2, hXL.1⟩, ?_, ?_, ?_⟩
  · refine mat_ext (app_lev hn hXL hdims.1) (matBy_lev _ _ _) (fun i hi j hj => ?_)
    rw [app_at (by omega), hXL.1, hI.2 i hi j hj, matBy_at2 hi hj]
    rfl
  · refine mat_ext (app_lev hXL.1 hlev hdims.1) (matBy_lev _ _ _) (fun i hi j hj => ?_)
    rw [app_at (by rw [hXL.1]; exact hi), hn, hI.1 i hi j hj, matBy_at2 hi hj]
    rfl
  · have hsqX : RightM X ∧ colsOf X = X.length := ⟨hXR.1, by rw [hXR.2, hXL.1]⟩
    have hrX : rankL X = n := by
      have h1 := rank_right hXR.1
      rw [hXR.2, hXL.1] at h1
      exact h1.unique (Gf.rank_of_inv hI)
    rw [backR, if_pos hsqX, if_neg (by rw [hXL.1]; omega), hXL.1]
    have hdX : (sweepTo (besideL X n n) n).2 = n := by
      have := square_rank hsqX
      rw [hXL.1] at this
      rw [this, hrX]
    have hI2 := back_inv hXL hdX
    have he : backL X n = M := mat_ext (back_lev X n) hlev (fun i hi j hj => hI2.symm.unique hI.1 i hi j hj)
    rw [he]
end Go.Proofs.Ytgakeecibofiiaa
