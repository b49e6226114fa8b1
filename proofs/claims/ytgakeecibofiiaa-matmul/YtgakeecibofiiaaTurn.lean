/-
  Turn and Powers of package mat.
-/
import Derived.Test.YtgakeecibofiiaaMakes
import Derived.Test.YtgakeecibofiiaaSweepL
namespace Go.Proofs.Ytgakeecibofiiaa
open Go.RowKit Go.Shelf

theorem right_row {M : List (List UInt8)} (h : RightM M) {i : Nat} {r : List UInt8} (hr : M[i]? = some r) : r.length = colsOf M := (h.2.2 r (List.mem_of_getElem? hr)).1
theorem right_cols {M : List (List UInt8)} (h : RightM M) : 1 ≤ colsOf M ∧ colsOf M ≤ 255 := by
  cases M with
  | nil => have := h.1; simp at this
  | cons a t => exact (h.2.2 a (List.mem_cons_self ..)).2

set_option maxRecDepth 100000 in
set_option maxHeartbeats 1000000 in
theorem turn1_says (W : World) (g : Nat) (A : Option Addr) (n c : Nat) (M : List (List UInt8)) (hM : Mtx W A n c M) (hr : RightM M) (hg : W.cell? ⟨g, 0, none⟩ = some (.slice A n c)) (i j : Nat) (hi : i < colsOf M) (hj : j < n) :
    Calls Try.prog 52 #[.int .i64 (i : Int), .int .i64 (j : Int), .pointer (some ⟨g, 0, none⟩)] W fun e w' => e = .returned (.int .u8 ((at2 M j i).toNat : Int)) ∧ Below W.heap.size W w' := by
  have hl := hM.len
  obtain ⟨r, hrj⟩ : ∃ r, M[j]? = some r := ⟨_, List.getElem?_eq_getElem (by omega)⟩
  have hrl := right_row hr hrj
  obtain ⟨u, hu⟩ : ∃ u, r[i]? = some u := ⟨_, List.getElem?_eq_getElem (by omega)⟩
  obtain ⟨b, off, Aj, cj, hA, hb, hc0, hlj⟩ := hM.row hrj
  obtain ⟨b2, off2, hA2, _, hb2, hc2⟩ := hlj.at (j := i) (u := .int .u8 (u.toNat : Int)) (by simp [bc, hu])
  subst hA hA2
  rw [at2_of hrj hu]
  rw [hrl] at hc0
  have hi' : (i : Int) < (colsOf M : Int) := by omega
  have hj' : (j : Int) < (n : Int) := by omega
  generalize colsOf M = m at hc0 hi hi'
  clear hM hr hrj hu hrl hlj hl
  go_enter Try.func52, Try.ntmps52
  go_wp2
  go_ret
  exact ⟨rfl, Below.refl _ _⟩
/-- The matrix whose rows are the columns. -/
def turnL (M : List (List UInt8)) : List (List UInt8) := if RightM M then matBy (colsOf M) M.length (fun i j => at2 M j i) else []
set_option maxRecDepth 100000 in
set_option maxHeartbeats 1000000 in
theorem turn_says (w : World) (A : Option Addr) (n c : Nat) (M : List (List UInt8)) (hM : Mtx w A n c M) (hn : n ≤ 2000) : Calls Try.prog 30 #[.slice A n c] w (GivesM w (turnL M)) := by
  have hb1 : Below w.heap.size w (w.alloc (.cells #[.slice A n c] 26)) := (Below.refl _ w).alloc (Nat.le_refl _) _
  have hg1 : (w.alloc (.cells #[.slice A n c] 26)).cell? ⟨w.heap.size, 0, none⟩ = some (.slice A n c) := cell_one_new w _ _ 0 _ rfl
  have hM1 := hM.below hb1
  have HS := Lib.hid (size_says _ A n c M hM1 hn)
  have hl := hM.len
  by_cases hr : RightM M
  · rw [sizeL, if_pos hr, hl] at HS
    rw [turnL, if_pos hr, hl]
    have HM := Lib.hid (fun (W : World) (hW : Below (w.alloc (.cells #[.slice A n c] 26)).heap.size (w.alloc (.cells #[.slice A n c] 26)) W) => made_says (colsOf M) n (by have := right_cols hr; omega) (by have := hr.2.1; omega) 52 #[.pointer (some ⟨w.heap.size, 0, none⟩)] (fun i j => at2 M j i) (enters_of Try.func52 (by kernel_rfl) rfl) W
      (fun V i j hi hj hV => turn1_says V w.heap.size A n c M ((hM1.below hW).below hV) hr (((hW.trans (hV.mono hW.size)).cell (p := ⟨w.heap.size, 0, none⟩) (by simp)).trans hg1) i j hi hj))
    have HB := Lib.hid hb1
    generalize matBy (colsOf M) n (fun i j => at2 M j i) = T at HM ⊢
    generalize colsOf M = m at HM HS
    clear hM hM1 hr hb1 hg1 hl
    go_enter Try.func30, Try.ntmps30
    go_wp2_with (first
      | (go_at_call 17; refine HS.out.mono ?_; rintro e wn ⟨rfl, hbn⟩; have HBN := Lib.hid hbn; clear hbn)
      | (go_at_call 43; refine (HM.out _ HBN.out).mono ?_; rintro e wm ⟨A1, n1, c1, rfl, hm, hbm⟩; have HR := Lib.hid (And.intro hm hbm); clear hm hbm))
    go_ret
    have hBB := HB.out.trans (HBN.out.mono HB.out.size)
    exact ⟨_, _, _, rfl, HR.out.1, hBB.trans (HR.out.2.mono hBB.size)⟩
  · rw [sizeL, if_neg hr] at HS
    rw [turnL, if_neg hr]
    have HM := Lib.hid (fun (W : World) => made_says 0 0 (by omega) (by omega) 52 #[.pointer (some ⟨w.heap.size, 0, none⟩)] (fun i j => at2 M j i) (enters_of Try.func52 (by kernel_rfl) rfl) W
      (fun V i j hi hj hV => by omega))
    have HB := Lib.hid hb1
    clear hM hM1 hr hb1 hg1 hl
    go_enter Try.func30, Try.ntmps30
    go_wp2_with (first
      | (go_at_call 17; refine HS.out.mono ?_; rintro e wn ⟨rfl, hbn⟩; have HBN := Lib.hid hbn; clear hbn)
      | (go_at_call 43; refine (HM.out _).mono ?_; rintro e wm ⟨A1, n1, c1, rfl, hm, hbm⟩; have HR := Lib.hid (And.intro hm hbm); clear hm hbm))
    go_ret
    have hBB := HB.out.trans (HBN.out.mono HB.out.size)
    exact ⟨_, _, _, rfl, HR.out.1, hBB.trans (HR.out.2.mono hBB.size)⟩

set_option maxRecDepth 100000 in
set_option maxHeartbeats 1000000 in
theorem powers1_says (W : World) (P : Option Addr) (g1 g2 : Nat) (A : Option Addr) (n c : Nat) (l : List UInt8) (h1 : W.cell? ⟨g1, 0, none⟩ = some (.pointer P)) (h2 : W.cell? ⟨g2, 0, none⟩ = some (.slice A n c)) (hg1 : g1 < W.heap.size) (hg2 : g2 < W.heap.size) (hl : Lies W (fun _ => True) A n c (bc l)) (i j : Nat) (hi : i < n) :
    Calls Try.prog 53 #[.int .i64 (i : Int), .int .i64 (j : Int), .pointer (some ⟨g1, 0, none⟩), .pointer (some ⟨g2, 0, none⟩)] W fun e w' => e = .returned (.int .u8 ((powL (l.getD i 0) (j : Int)).toNat : Int)) ∧ Below W.heap.size W w' := by
  have hln : l.length = n := by rw [← bc_length]; exact hl.len
  obtain ⟨u, hu⟩ : ∃ u, l[i]? = some u := ⟨_, List.getElem?_eq_getElem (by omega)⟩
  obtain ⟨b, off, hA, _, hb, hc0⟩ := hl.at (j := i) (u := .int .u8 (u.toNat : Int)) (by simp [bc, hu])
  subst hA
  have he : l.getD i 0 = u := by simp [List.getD_eq_getElem?_getD, hu]
  rw [he]
  have hc1 := grows_cell h1 hg1
  have hc2 := grows_cell h2 hg2
  have hc3 := grows_cell hc0 hb
  have hi' : (i : Int) < (n : Int) := by omega
  have hpw : ∀ q : Grows W, Calls Try.prog 54 #[.pointer P, .int .u8 (u.toNat : Int), .int .i64 (j : Int)] q.val fun e w'' => e = .returned (.int .u8 ((powL u (j : Int)).toNat : Int)) ∧ ∃ p' : Grows W, w'' = p'.val := fun q => (power_says P u j q.val).mono fun _ w'' hh => ⟨hh.1, q, hh.2⟩
  clear hl hln hu he h1 h2 hc0
  go_enter Try.func53, Try.ntmps53
  go_wp2_with fail
  refine wp_region_grows (by kernel_rfl) (by kernel_rfl) ?_
  repeat (first
    | quiet_step (first | (go_at_call 54; exact hpw _)))
  refine wpQuiet_nil ?_
  rintro w2 ⟨⟨_, hw2⟩, rfl⟩
  have HW := Lib.hid hw2
  clear hw2 hpw hc1 hc2 hc3
  go_wp2
  go_ret
  exact ⟨rfl, HW.out⟩

set_option maxRecDepth 100000 in
set_option maxHeartbeats 1000000 in
theorem powers_yes (P : Option Addr) (A : Option Addr) (n c : Nat) (l : List UInt8) (cols : Nat) (h1 : 1 ≤ n ∧ n ≤ 255) (h2 : 1 ≤ cols ∧ cols ≤ 255) (w : World) (hl : Lies w (fun _ => True) A n c (bc l)) :
    Calls Try.prog 31 #[.pointer P, .slice A n c, .int .i64 (cols : Int)] w (GivesE w (matBy n cols (fun i j => powL (l.getD i 0) (j : Int))) 0) := by
  have hb2 : Below w.heap.size w ((w.alloc (.cells #[.pointer P] 24)).alloc (.cells #[.slice A n c] 31)) := ((Below.refl _ w).alloc (Nat.le_refl _) _).alloc (by simp) _
  have hp : (((w.alloc (.cells #[.pointer P] 24)).alloc (.cells #[.slice A n c] 31))).cell? ⟨w.heap.size, 0, none⟩ = some (.pointer P) := (((Below.refl _ (w.alloc (.cells #[.pointer P] 24))).alloc (Nat.le_refl _) _).cell (p := ⟨w.heap.size, 0, none⟩) (by simp)).trans (cell_one_new w _ _ 0 _ rfl)
  have hq : (((w.alloc (.cells #[.pointer P] 24)).alloc (.cells #[.slice A n c] 31))).cell? ⟨w.heap.size + 1, 0, none⟩ = some (.slice A n c) := by
    simp
  have hc1 := fun W => counts_yes n h1 W
  have hc2 := fun W => counts_yes cols h2 W
  have HM := Lib.hid (made_says n cols (by omega) (by omega) 53 #[.pointer (some ⟨w.heap.size, 0, none⟩), .pointer (some ⟨w.heap.size + 1, 0, none⟩)] (fun i j => powL (l.getD i 0) (j : Int)) (enters_of Try.func53 (by kernel_rfl) rfl) ((w.alloc (.cells #[.pointer P] 24)).alloc (.cells #[.slice A n c] 31))
    (fun W i j hi _ hW => powers1_says W P w.heap.size (w.heap.size + 1) A n c l ((hW.cell (p := ⟨w.heap.size, 0, none⟩) (by simp; omega)).trans hp) ((hW.cell (p := ⟨w.heap.size + 1, 0, none⟩) (by simp)).trans hq) (Nat.lt_of_lt_of_le (by simp; omega) hW.size) (Nat.lt_of_lt_of_le (by simp) hW.size) ((hl.below hb2).below hW) i j hi))
  have HB := Lib.hid hb2
  have HC1 := Lib.hid hc1
  have HC2 := Lib.hid hc2
  clear hb2 h1 h2 hc1 hc2 hp hq hl
  generalize matBy n cols (fun i j => powL (l.getD i 0) (j : Int)) = T at HM ⊢
  go_enter Try.func31, Try.ntmps31
  go_wp2_with (first
    | (go_at_call 40; with_reducible refine (HC1.out _).mono ?_; rintro e wn ⟨rfl, rfl⟩)
    | (go_at_call 40; with_reducible refine (HC2.out _).mono ?_; rintro e wn ⟨rfl, rfl⟩)
    | (go_at_call 43; refine HM.out.mono ?_; rintro e wm ⟨A1, n1, c1, rfl, hm, hbm⟩; have HR := Lib.hid (And.intro hm hbm); clear hm hbm))
  go_ret2
  exact ⟨_, _, _, rfl, HR.out.1, HB.out.trans (HR.out.2.mono HB.out.size)⟩
set_option maxRecDepth 100000 in
set_option maxHeartbeats 1000000 in
theorem powers_no (P : Option Addr) (A : Option Addr) (n c : Nat) (cols : Nat) (h : n = 0 ∨ cols = 0) (hn : n ≤ 255) (w : World) : Calls Try.prog 31 #[.pointer P, .slice A n c, .int .i64 (cols : Int)] w (GivesE w [] 2) := by
  have HB := Lib.hid (show Below w.heap.size w ((w.alloc (.cells #[.pointer P] 24)).alloc (.cells #[.slice A n c] 31)) from ((Below.refl _ w).alloc (Nat.le_refl _) _).alloc (by simp) _)
  by_cases h1 : n = 0
  · have HC1 := Lib.hid (fun W => counts_no n (by omega) W)
    clear h h1 hn
    go_enter Try.func31, Try.ntmps31
    go_wp2_with (go_at_call 40; with_reducible refine (HC1.out _).mono ?_; rintro e wn ⟨rfl, rfl⟩)
    go_ret2
    exact ⟨_, _, _, rfl, Mtx.nil _ _ _, HB.out⟩
  · have HC1 := Lib.hid (fun W => counts_yes n (by omega) W)
    have HC2 := Lib.hid (fun W => counts_no cols (by omega) W)
    clear h h1 hn
    go_enter Try.func31, Try.ntmps31
    go_wp2_with (first
      | (go_at_call 40; with_reducible refine (HC1.out _).mono ?_; rintro e wn ⟨rfl, rfl⟩)
      | (go_at_call 40; with_reducible refine (HC2.out _).mono ?_; rintro e wn ⟨rfl, rfl⟩))
    go_ret2
    exact ⟨_, _, _, rfl, Mtx.nil _ _ _, HB.out⟩
end Go.Proofs.Ytgakeecibofiiaa
