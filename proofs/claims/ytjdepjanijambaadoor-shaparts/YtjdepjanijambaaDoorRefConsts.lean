/-
  The reference's All: the constants are sha's own.
-/
import Derived.Test.YtjdepjanijambaaDoorRefAll
namespace Go.Proofs.YtjdepjanijambaaDoor
open Go.RowKit

/-- The constants while they are made: a of the first, b of the others. -/
def cv (a b i : Nat) : Nat := if i < 64 then (if i < a then rootV (primes.getD i 0) 3 else 0) else (if i - 64 < b then rootV (primes.getD (i - 64) 0) 2 else 0)
/-- The constants: of the rounds, then what the state begins with. -/
def constV (i : Nat) : Nat := (Ktab ++ First.list).getD i 0
theorem const_k (k : Nat) (h : k < 64) : constV k = Kat k := by
  unfold constV Kat
  rw [List.getD, List.getElem?_append_left (by show k < 64; exact h)]
  rfl
theorem const_f (k : Nat) (h : k < 8) : constV (64 + k) = First.list.getD k 0 := by
  unfold constV
  rw [List.getD, List.getElem?_append_right (by show 64 ≤ 64 + k; omega), show 64 + k - Ktab.length = k by show 64 + k - 64 = k; omega]
  rfl
theorem cv_all : (List.range 72).all (fun i => cv 64 8 i == constV i) = true := by
  have h : (List.range 72).all (fun i => (if i < 64 then rootV ([2, 3, 5, 7, 11, 13, 17, 19, 23, 29, 31, 37, 41, 43, 47, 53, 59, 61, 67, 71, 73, 79, 83, 89, 97, 101, 103, 107, 109, 113, 127, 131, 137, 139, 149, 151, 157, 163, 167, 173, 179, 181, 191, 193, 197, 199, 211, 223, 227, 229, 233, 239, 241, 251, 257, 263, 269, 271, 277, 281, 283, 293, 307, 311].getD i 0) 3 else rootV ([2, 3, 5, 7, 11, 13, 17, 19, 23, 29, 31, 37, 41, 43, 47, 53, 59, 61, 67, 71, 73, 79, 83, 89, 97, 101, 103, 107, 109, 113, 127, 131, 137, 139, 149, 151, 157, 163, 167, 173, 179, 181, 191, 193, 197, 199, 211, 223, 227, 229, 233, 239, 241, 251, 257, 263, 269, 271, 277, 281, 283, 293, 307, 311].getD (i - 64) 0) 2) == constV i) = true := by decide +kernel
  rw [List.all_eq_true] at h ⊢
  intro i hi
  have := h i hi
  rw [← primes_are] at this
  simp only [List.mem_range] at hi
  have e : cv 64 8 i = if i < 64 then rootV (primes.getD i 0) 3 else rootV (primes.getD (i - 64) 0) 2 := by
    unfold cv
    by_cases h64 : i < 64
    · rw [if_pos h64, if_pos h64, if_pos h64]
    · rw [if_neg h64, if_neg h64, if_pos (by omega)]
  rw [e]
  exact this
theorem cv_end : u32s (cv 64 8) 72 = u32s constV 72 := by
  unfold u32s
  apply List.map_congr_left
  intro i hi
  have := List.all_eq_true.1 cv_all i hi
  rw [beq_iff_eq] at this
  rw [this]
theorem u32s_congr {B B' : Nat → Nat} {n : Nat} (h : ∀ i, i < n → B i = B' i) : u32s B n = u32s B' n := by
  unfold u32s
  apply List.map_congr_left
  intro i hi
  rw [h i (by simpa using hi)]
theorem u32s_put (B : Nat → Nat) (n i x : Nat) : (u32s B n).toArray.setIfInBounds i (.int .u32 (x : Int)) = (u32s (fun j => if j = i then x else B j) n).toArray := by
  apply Array.ext_getElem?
  intro j
  rw [Array.getElem?_setIfInBounds]
  by_cases hj : j < n
  · rw [u32s_get _ n j hj, u32s_get _ n j hj]
    by_cases e : i = j
    · subst e
      simp [u32s_length, hj]
    · rw [if_neg e, if_neg (fun h => e h.symm)]
  · rw [Array.getElem?_eq_none (by simp [u32s_length]; omega : (u32s (fun j => if j = i then x else B j) n).toArray.size ≤ j)]
    by_cases e : i = j
    · subst e
      simp [u32s_length]
      omega
    · rw [if_neg e, Array.getElem?_eq_none (by simp [u32s_length]; omega)]
theorem cv_k (a b : Nat) (h : a < 64) : (u32s (cv a b) 72).toArray.setIfInBounds a (.int .u32 ((rootV (primes.getD a 0) 3 : Nat) : Int)) = (u32s (cv (a + 1) b) 72).toArray := by
  rw [u32s_put]
  refine congrArg List.toArray (u32s_congr fun i _ => ?_)
  unfold cv
  by_cases e : i = a
  · subst e
    rw [if_pos rfl, if_pos h, if_pos (by omega)]
  · rw [if_neg e]
    by_cases h64 : i < 64
    · rw [if_pos h64, if_pos h64]
      by_cases hl : i < a
      · rw [if_pos hl, if_pos (by omega)]
      · rw [if_neg hl, if_neg (by omega)]
    · rw [if_neg h64, if_neg h64]
theorem cv_f (a b : Nat) : (u32s (cv a b) 72).toArray.setIfInBounds (64 + b) (.int .u32 ((rootV (primes.getD b 0) 2 : Nat) : Int)) = (u32s (cv a (b + 1)) 72).toArray := by
  rw [u32s_put]
  refine congrArg List.toArray (u32s_congr fun i _ => ?_)
  unfold cv
  by_cases e : i = 64 + b
  · subst e
    rw [if_pos rfl, if_neg (by omega), if_pos (by omega), show 64 + b - 64 = b by omega]
  · rw [if_neg e]
    by_cases h64 : i < 64
    · rw [if_pos h64, if_pos h64]
    · rw [if_neg h64, if_neg h64]
      by_cases hl : i - 64 < b
      · rw [if_pos hl, if_pos (by omega)]
      · rw [if_neg hl, if_neg (by omega)]
theorem primes_lt : ∀ i, i < 64 → primes.getD i 0 < 1000 := by
  have h : (List.range 64).all (fun i => decide ([2, 3, 5, 7, 11, 13, 17, 19, 23, 29, 31, 37, 41, 43, 47, 53, 59, 61, 67, 71, 73, 79, 83, 89, 97, 101, 103, 107, 109, 113, 127, 131, 137, 139, 149, 151, 157, 163, 167, 173, 179, 181, 191, 193, 197, 199, 211, 223, 227, 229, 233, 239, 241, 251, 257, 263, 269, 271, 277, 281, 283, 293, 307, 311].getD i 0 < 1000)) = true := by decide +kernel
  rw [← primes_are] at h
  intro i hi
  simpa using List.all_eq_true.1 h i (by simpa using hi)
theorem zeroConsts : (Tryd.prog.info? 28).map (fun i => (i.zero, i.size)) = some (some (.agg (u32s (fun _ => 0) 72).toArray), 72) := by kernel_rfl
theorem infoConsts (B : Nat → Nat) : (Tryd.prog.info? 28).map (·.size) = some (u32s B 72).toArray.size := by
  rw [List.size_toArray, u32s_length]
  exact (zero_of_info zeroConsts).2
theorem cv_start : u32s (cv 0 0) 72 = u32s (fun _ => 0) 72 := u32s_congr fun i _ => by
  unfold cv
  split <;> rw [if_neg (by omega)]

/-- The call's blocks: the answer, the constants, the primes. -/
def CRel (w : World) (g a b : Nat) (wr : World) : Prop := Box wr w.heap.size 28 (u32s (fun _ => 0) 72).toArray ∧ Box wr (w.heap.size + 1) 28 (u32s (cv a b) 72).toArray ∧ Box wr g 51 (pcells primes).toArray ∧ Below w.heap.size w wr

set_option maxRecDepth 100000 in
set_option maxHeartbeats 1000000 in
theorem all_any (w : World) : Calls Tryd.prog 9 #[] w fun e w' => e = .returned (.agg (u32s constV 72).toArray) ∧ Below w.heap.size w w' := by
  have hz := (zero_of_info zeroConsts).1
  go_enter Tryd.func9, Tryd.ntmps9
  go_wp2_with fail
  clear hz
  refine (primes_any _).mono ?_
  rintro e w1 ⟨rfl, hb1⟩
  have HB1 := Lib.hid hb1
  clear hb1
  go_wp2_with (refine wpList_store_row rfl 51 _ _ rfl w1.heap.size (pcells primes).toArray rfl rfl 51 _ (heap_alloc_new w1 _) (infoPs _) (by simp [pcells_length]) (pcells_one _) ?_)
  rw [World.setRow_alloc_new]
  have hz1 := HB1.out.size
  simp at hz1
  have HC := Lib.hid (show CRel w w1.heap.size 0 0 (w1.alloc (.cells (pcells primes).toArray 51)) from ⟨(((Box.made w _ _).alloc _).below HB1.out (by simp; omega)).alloc _, by rw [cv_start]; exact ((box1 w _ _ _).below HB1.out (by simp)).alloc _, Box.made _ _ _, ((below2 w _ _).trans (HB1.out.mono (by simp; omega))).alloc (by omega) _⟩)
  have hg : w.heap.size + 1 < w1.heap.size := by omega
  generalize w1.heap.size = g at HC hg ⊢
  generalize w1.alloc (.cells (pcells primes).toArray 51) = w2 at HC ⊢
  clear HB1 hz1
  go_wp2
  go_loopw [3] (fun i wr => ∃ k : Nat, k ≤ 64 ∧ i = .int .i64 (k : Int) ∧ CRel w g k 0 wr) (fun i _ => 64 - (intOf i).toNat)
  case atStart => exact ⟨0, by omega, rfl, HC.out⟩
  case round =>
    clear HC
    obtain ⟨k, hk, rfl, hc⟩ := hrel
    have HC := Lib.hid hc
    clear hc
    by_cases hlt : k < 64
    · obtain ⟨x, hx⟩ : ∃ x : Nat, x = primes.getD k 0 := ⟨_, rfl⟩
      have hx1 : x < 1000 := by rw [hx]; exact primes_lt k hlt
      have cp := (HC.out.2.2.1.cell k).trans (pcells_get primes k hlt)
      rw [← hx] at cp
      have HX := Lib.hid hx
      clear hx
      have cw := (HC.out.2.1.cell k).trans (u32s_get (cv k 0) 72 k (by omega))
      have fw := HC.out.2.1.frozen k
      have l4 : (k : Int) < 64 := by omega
      go_wp2_with (refine (root3_any x _ hx1).mono ?_; rintro e w' ⟨rfl, rfl⟩)
      go_roundw
      case rel =>
        refine ⟨k + 1, by omega, by go_num, HC.out.1.other _ _ (by show w.heap.size ≠ w.heap.size + 1; omega), ?_, HC.out.2.2.1.other _ _ (by show g ≠ w.heap.size + 1; omega), HC.out.2.2.2.setCell (by show w.heap.size ≤ w.heap.size + 1; omega) _⟩
        rw [← cv_k k 0 hlt, ← HX.out]
        exact HC.out.2.1.put k _
      case measure => simp [intOf]; omega
    · obtain rfl : k = 64 := by omega
      go_wp2
      go_loopw [4] (fun i wr => ∃ k : Nat, k ≤ 8 ∧ i = .int .i64 (k : Int) ∧ CRel w g 64 k wr) (fun i _ => 8 - (intOf i).toNat)
      case atStart => exact ⟨0, by omega, rfl, HC.out⟩
      case round =>
        clear HC
        obtain ⟨k, hk, rfl, hc⟩ := hrel
        have HC := Lib.hid hc
        clear hc
        by_cases hlt : k < 8
        · obtain ⟨x, hx⟩ : ∃ x : Nat, x = primes.getD k 0 := ⟨_, rfl⟩
          have hx1 : x < 1000 := by rw [hx]; exact primes_lt k (by omega)
          have cp := (HC.out.2.2.1.cell k).trans (pcells_get primes k (by omega))
          rw [← hx] at cp
          have HX := Lib.hid hx
          clear hx
          have cw := (HC.out.2.1.cell (64 + k)).trans (u32s_get (cv 64 k) 72 (64 + k) (by omega))
          have fw := HC.out.2.1.frozen (64 + k)
          have l4 : (k : Int) < 64 := by omega
          have l5 : (k : Int) < 8 := by omega
          go_wp2_with (refine (root2_any x _ hx1).mono ?_; rintro e w' ⟨rfl, rfl⟩)
          go_roundw
          case rel =>
            repeat apply Exists.intro
            refine ⟨⟨k + 1, by omega, by go_num, HC.out.1.other _ _ (by show w.heap.size ≠ w.heap.size + 1; omega), ?_, HC.out.2.2.1.other _ _ (by show g ≠ w.heap.size + 1; omega), HC.out.2.2.2.setCell (by show w.heap.size ≤ w.heap.size + 1; omega) _⟩, rfl⟩
            rw [← cv_f 64 k, ← HX.out]
            exact HC.out.2.1.put (64 + k) _
          case measure => simp [intOf]; omega
        · obtain rfl : k = 8 := by omega
          go_wp2_with (first | (refine wpList_load_row rfl 28 _ rfl (w.heap.size + 1) rfl 28 _ (0, 0) _ HC.out.2.1 Tryd.underlying28 rfl (infoConsts _) ?_) | (refine wpList_store_row rfl 28 _ _ rfl w.heap.size (u32s (cv 64 8) 72).toArray rfl rfl 28 _ HC.out.1 (infoConsts _) (by simp [u32s_length]) (u32s_one _ _) ?_))
          rw [← cv_end]
          exact bodyPost_ret (v := .agg (u32s (cv 64 8) 72).toArray) (results_cell_row (P := Tryd.prog) (p := 0) (ty := 28) Tryd.results9 _ _ w.heap.size 28 _ (0, 0) _ rfl (setRow_heap _ _ _ _ _ _ HC.out.1) Tryd.underlying28 rfl (infoConsts _)) rfl ⟨rfl, below_setRow HC.out.2.2.2 (Nat.le_refl _) _⟩
end Go.Proofs.YtjdepjanijambaaDoor
