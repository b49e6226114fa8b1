/-
  Size, One, Cauchy, Powers and Turn of package mat.
-/
import Derived.Test.YtgakeecibofiiaaSmall
import Derived.Test.YtgakeecibofiiaaMade
namespace Go.Proofs.Ytgakeecibofiiaa
open Go.RowKit Go.Shelf

/-- A matrix handed back beside an error's number. -/
def GivesE (w : World) (M : List (List UInt8)) (f : Int) (e : Ending) (w' : World) : Prop := ∃ A n c, e = .returned (.tuple #[.slice A n c, .int .i64 f]) ∧ Mtx w' A n c M ∧ Below w.heap.size w w'
/-- How many columns. -/
def colsOf (M : List (List UInt8)) : Nat := (M.headD []).length
/-- Rows and columns of what is right, else none. -/
def sizeL (M : List (List UInt8)) : Nat × Nat := if RightM M then (M.length, colsOf M) else (0, 0)

set_option maxRecDepth 100000 in
set_option maxHeartbeats 1000000 in
theorem size_says (w : World) (A : Option Addr) (n c : Nat) (M : List (List UInt8)) (hM : Mtx w A n c M) (hn : n ≤ 2000) : Calls Try.prog 17 #[.slice A n c] w fun e w' => e = .returned (.tuple #[.int .i64 ((sizeL M).1 : Int), .int .i64 ((sizeL M).2 : Int)]) ∧ Below w.heap.size w w' := by
  have HR := Lib.hid (right_says w A n c M hM hn)
  have hl := hM.len
  have HM := Lib.hid hM
  clear hM
  by_cases hr : RightM M
  · rw [decide_eq_true hr] at HR
    rw [sizeL, if_pos hr, hl]
    obtain ⟨r0, hr0⟩ : ∃ r, M[0]? = some r := ⟨_, List.getElem?_eq_getElem (by have := hr.1; omega)⟩
    have hhd : M.headD [] = r0 := by
      cases M with
      | nil => simp at hr0
      | cons a t => simpa using hr0
    have hn0 : 0 < n := by have := hr.1; omega
    obtain ⟨b, off, A0, c0, hA, hb, hc0, _⟩ := HM.out.row hr0
    subst hA
    rw [colsOf, hhd]
    rw [Nat.add_zero] at hc0
    generalize r0.length = x at hc0 ⊢
    clear hr hr0 hhd hl HM
    go_enter Try.func17, Try.ntmps17
    go_wp2_with (go_at_call 20; refine HR.out.mono ?_; rintro e wn ⟨rfl, hbn⟩; have hcn := grows_cell ((hbn.cell (p := ⟨b, off, none⟩) hb).trans hc0) (Nat.lt_of_lt_of_le hb hbn.size); have HBN := Lib.hid hbn; clear hbn)
    refine wp_region_grows (by kernel_rfl) (by kernel_rfl) ?_
    repeat (first | quiet_step (fail))
    refine wpQuiet_nil ?_
    rintro w2 ⟨⟨_, hw2⟩, rfl⟩
    have HW := Lib.hid (HBN.out.trans (hw2.mono HBN.out.size))
    clear hw2 hcn
    go_wp2
    go_ret2
    exact ⟨rfl, HW.out⟩
  · rw [decide_eq_false hr] at HR
    rw [sizeL, if_neg hr]
    go_enter Try.func17, Try.ntmps17
    go_wp2_with (go_at_call 20; refine HR.out.mono ?_; rintro e wn ⟨rfl, hbn⟩; have HBN := Lib.hid hbn; clear hbn)
    go_ret2
    exact ⟨rfl, HBN.out⟩

/-- The one that changes nothing. -/
def oneF (i j : Nat) : UInt8 := if i = j then 1 else 0
set_option maxRecDepth 100000 in
theorem one1_says (W : World) (i j : Nat) : Calls Try.prog 44 #[.int .i64 (i : Int), .int .i64 (j : Int)] W fun e w' => e = .returned (.int .u8 ((oneF i j).toNat : Int)) ∧ Below W.heap.size W w' := by
  by_cases h : i = j
  · subst h
    rw [oneF, if_pos rfl]
    go_enter Try.func44, Try.ntmps44
    go_wp2
    go_ret
    exact ⟨rfl, Below.refl _ _⟩
  · rw [oneF, if_neg h]
    have h' : ¬ (i : Int) = (j : Int) := by omega
    clear h
    go_enter Try.func44, Try.ntmps44
    go_wp2
    go_ret
    exact ⟨rfl, Below.refl _ _⟩
set_option maxRecDepth 100000 in
theorem one_yes (n : Nat) (h : 1 ≤ n ∧ n ≤ 255) (w : World) : Calls Try.prog 23 #[.int .i64 (n : Int)] w (GivesE w (matBy n n oneF) 0) := by
  have HC := Lib.hid (counts_yes n h w)
  have HM := Lib.hid (made_says n n (by omega) (by omega) 44 #[] oneF (enters_of Try.func44 (by kernel_rfl) rfl) w (fun W i j _ _ _ => one1_says W i j))
  clear h
  go_enter Try.func23, Try.ntmps23
  go_wp2_with (first
    | (go_at_call 40; refine HC.out.mono ?_; rintro e wn ⟨rfl, hwn⟩; obtain rfl : w = wn := hwn.symm)
    | (go_at_call 43; refine HM.out.mono ?_; rintro e wm ⟨A, n1, c, rfl, hm, hbm⟩; have HR := Lib.hid (And.intro hm hbm); clear hm hbm))
  go_ret2
  exact ⟨_, _, _, rfl, HR.out⟩
set_option maxRecDepth 100000 in
theorem one_no (n : Int) (h : ¬ (1 ≤ n ∧ n ≤ 255)) (w : World) : Calls Try.prog 23 #[.int .i64 n] w (GivesE w [] 2) := by
  have hc := counts_int n w
  rw [decide_eq_false h] at hc
  go_enter Try.func23, Try.ntmps23
  go_wp2_with (go_at_call 40; refine hc.mono ?_; rintro e wn ⟨rfl, hwn⟩; obtain rfl : w = wn := hwn.symm)
  go_ret2
  exact ⟨_, _, _, rfl, Mtx.nil _ _ _, Below.refl _ _⟩

/-- A Cauchy matrix's number. -/
def cauF (cols i j : Nat) : UInt8 := Gf.inv (UInt8.ofNat (i + cols) ^^^ UInt8.ofNat j)
theorem wrap8 (n : Nat) : IntKind.u8.wrap (n : Int) = ((UInt8.ofNat n).toNat : Int) := by
  rw [IntKind.wrap_u8', UInt8.toNat_ofNat']
  omega
set_option maxRecDepth 100000 in
set_option maxHeartbeats 1000000 in
theorem cauchy1_says (W : World) (P : Option Addr) (g1 g2 cols i j : Nat) (h1 : W.cell? ⟨g1, 0, none⟩ = some (.pointer P)) (h2 : W.cell? ⟨g2, 0, none⟩ = some (.int .i64 (cols : Int))) (hg1 : g1 < W.heap.size) (hg2 : g2 < W.heap.size) (hc : cols ≤ 255) (hi : i ≤ 255) :
    Calls Try.prog 45 #[.int .i64 (i : Int), .int .i64 (j : Int), .pointer (some ⟨g1, 0, none⟩), .pointer (some ⟨g2, 0, none⟩)] W fun e w' => e = .returned (.int .u8 ((cauF cols i j).toNat : Int)) ∧ Below W.heap.size W w' := by
  have hc1 := grows_cell h1 hg1
  have hc2 := grows_cell h2 hg2
  have hs : IntKind.i64.wrap ((i : Int) + (cols : Int)) = ((i + cols : Nat) : Int) := by rw [IntWalk.i64_in _ (by omega)]; omega
  have hx : IntKind.u8.wrap ((i : Int) + (cols : Int)) = ((UInt8.ofNat (i + cols)).toNat : Int) := by rw [← wrap8]; simp
  have hy : IntKind.u8.wrap (j : Int) = ((UInt8.ofNat j).toNat : Int) := wrap8 j
  unfold cauF
  generalize UInt8.ofNat (i + cols) = x at hx ⊢
  generalize UInt8.ofNat j = y at hy ⊢
  have had : ∀ q : Grows W, _ := fun q => gfB.addG P x y q
  have hin : ∀ q : Grows W, Calls Try.prog 46 #[.pointer P, .int .u8 ((x ^^^ y).toNat : Int)] q.val fun e w'' => e = .returned (.int .u8 ((Gf.inv (x ^^^ y)).toNat : Int)) ∧ ∃ p' : Grows W, w'' = p'.val := fun q => (inv_says P (x ^^^ y) q.val).mono fun _ w'' hh => ⟨hh.1, q, hh.2⟩
  go_enter Try.func45, Try.ntmps45
  go_wp2_with fail
  refine wp_region_grows (by kernel_rfl) (by kernel_rfl) ?_
  repeat (first
    | quiet_step (first | (go_at_call 47; exact had _) | (go_at_call 46; exact hin _)))
  refine wpQuiet_nil ?_
  rintro w2 ⟨⟨_, hw2⟩, rfl⟩
  have HW := Lib.hid hw2
  clear hw2 had hin hc1 hc2
  go_wp2
  go_ret
  exact ⟨rfl, HW.out⟩

/-- Both sizes may be, and go together. -/
def cauOk (r c : Int) : Prop := (1 ≤ r ∧ r ≤ 255) ∧ (1 ≤ c ∧ c ≤ 255) ∧ r + c ≤ 256
set_option maxRecDepth 100000 in
set_option maxHeartbeats 1000000 in
theorem cauchy_yes (P : Option Addr) (rows cols : Nat) (h : cauOk rows cols) (w : World) : Calls Try.prog 24 #[.pointer P, .int .i64 (rows : Int), .int .i64 (cols : Int)] w (GivesE w (matBy rows cols (cauF cols)) 0) := by
  obtain ⟨h1, h2, h3⟩ := h
  have hb2 : Below w.heap.size w ((w.alloc (.cells #[.pointer P] 24)).alloc (.cells #[.int .i64 (cols : Int)] 3)) := ((Below.refl _ w).alloc (Nat.le_refl _) _).alloc (by simp) _
  have hp : (((w.alloc (.cells #[.pointer P] 24)).alloc (.cells #[.int .i64 (cols : Int)] 3))).cell? ⟨w.heap.size, 0, none⟩ = some (.pointer P) := (((Below.refl _ (w.alloc (.cells #[.pointer P] 24))).alloc (Nat.le_refl _) _).cell (p := ⟨w.heap.size, 0, none⟩) (by simp)).trans (cell_one_new w _ _ 0 _ rfl)
  have hq : (((w.alloc (.cells #[.pointer P] 24)).alloc (.cells #[.int .i64 (cols : Int)] 3))).cell? ⟨w.heap.size + 1, 0, none⟩ = some (.int .i64 (cols : Int)) := by
    simp
  have hc1 := fun W => counts_yes rows (by omega) W
  have hc2 := fun W => counts_yes cols (by omega) W
  have h3' : ¬ (256 : Int) < (rows : Int) + (cols : Int) := by omega
  have hwr : IntKind.i64.wrap ((rows : Int) + (cols : Int)) = (rows : Int) + (cols : Int) := IntWalk.i64_in _ (by omega)
  have HM := Lib.hid (made_says rows cols (by omega) (by omega) 45 #[.pointer (some ⟨w.heap.size, 0, none⟩), .pointer (some ⟨w.heap.size + 1, 0, none⟩)] (cauF cols) (enters_of Try.func45 (by kernel_rfl) rfl) ((w.alloc (.cells #[.pointer P] 24)).alloc (.cells #[.int .i64 (cols : Int)] 3))
    (fun W i j hi _ hW => cauchy1_says W P w.heap.size (w.heap.size + 1) cols i j ((hW.cell (p := ⟨w.heap.size, 0, none⟩) (by simp; omega)).trans hp) ((hW.cell (p := ⟨w.heap.size + 1, 0, none⟩) (by simp)).trans hq) (Nat.lt_of_lt_of_le (by simp; omega) hW.size) (Nat.lt_of_lt_of_le (by simp) hW.size) (by omega) (by omega)))
  have HB := Lib.hid hb2
  have HC1 := Lib.hid hc1
  have HC2 := Lib.hid hc2
  clear hb2 h1 h2 h3 hc1 hc2 hp hq
  go_enter Try.func24, Try.ntmps24
  go_wp2_with (first
    | (go_at_call 40; with_reducible refine (HC1.out _).mono ?_; rintro e wn ⟨rfl, rfl⟩)
    | (go_at_call 40; with_reducible refine (HC2.out _).mono ?_; rintro e wn ⟨rfl, rfl⟩)
    | (go_at_call 43; refine HM.out.mono ?_; rintro e wm ⟨A, n1, c, rfl, hm, hbm⟩; have HR := Lib.hid (And.intro hm hbm); clear hm hbm))
  go_ret2
  exact ⟨_, _, _, rfl, HR.out.1, HB.out.trans (HR.out.2.mono HB.out.size)⟩
set_option maxRecDepth 100000 in
set_option maxHeartbeats 1000000 in
theorem cauchy_no (P : Option Addr) (r c : Int) (hr : -9223372036854775808 ≤ r ∧ r ≤ 9223372036854775807) (h : ¬ cauOk r c) (w : World) : Calls Try.prog 24 #[.pointer P, .int .i64 r, .int .i64 c] w (GivesE w [] 2) := by
  have hc1 := fun W => counts_int r W
  have hc2 := fun W => counts_int c W
  have HB := Lib.hid (show Below w.heap.size w ((w.alloc (.cells #[.pointer P] 24)).alloc (.cells #[.int .i64 c] 3)) from ((Below.refl _ w).alloc (Nat.le_refl _) _).alloc (by simp) _)
  by_cases h1 : 1 ≤ r ∧ r ≤ 255
  · by_cases h2 : 1 ≤ c ∧ c ≤ 255
    · have h3 : (256 : Int) < r + c := by
        rcases Int.lt_or_le 256 (r + c) with h4 | h4
        · exact h4
        · exact absurd ⟨h1, h2, h4⟩ h
      rw [decide_eq_true h1] at hc1
      rw [decide_eq_true h2] at hc2
      have hwr : IntKind.i64.wrap (r + c) = r + c := IntWalk.i64_in _ (by omega)
      have HC1 := Lib.hid hc1
      have HC2 := Lib.hid hc2
      clear h1 h2 h hc1 hc2
      go_enter Try.func24, Try.ntmps24
      go_wp2_with (first
        | (go_at_call 40; with_reducible refine (HC1.out _).mono ?_; rintro e wn ⟨rfl, rfl⟩)
        | (go_at_call 40; with_reducible refine (HC2.out _).mono ?_; rintro e wn ⟨rfl, rfl⟩))
      go_ret2
      exact ⟨_, _, _, rfl, Mtx.nil _ _ _, HB.out⟩
    · rw [decide_eq_true h1] at hc1
      rw [decide_eq_false h2] at hc2
      have HC1 := Lib.hid hc1
      have HC2 := Lib.hid hc2
      clear h1 h2 h hc1 hc2
      go_enter Try.func24, Try.ntmps24
      go_wp2_with (first
        | (go_at_call 40; with_reducible refine (HC1.out _).mono ?_; rintro e wn ⟨rfl, rfl⟩)
        | (go_at_call 40; with_reducible refine (HC2.out _).mono ?_; rintro e wn ⟨rfl, rfl⟩))
      go_ret2
      exact ⟨_, _, _, rfl, Mtx.nil _ _ _, HB.out⟩
  · rw [decide_eq_false h1] at hc1
    have HC1 := Lib.hid hc1
    clear h1 h hc1 hc2
    go_enter Try.func24, Try.ntmps24
    go_wp2_with (go_at_call 40; with_reducible refine (HC1.out _).mono ?_; rintro e wn ⟨rfl, rfl⟩)
    go_ret2
    exact ⟨_, _, _, rfl, Mtx.nil _ _ _, HB.out⟩
end Go.Proofs.Ytgakeecibofiiaa
