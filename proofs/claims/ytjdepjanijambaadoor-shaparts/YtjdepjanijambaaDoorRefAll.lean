/-
  The reference's primes, and all of its constants: they are sha's own.
-/
import Derived.Test.YtjdepjanijambaaDoorRefRoot
import Derived.Test.YtjdepjanijambaaDoorMix
namespace Go.Proofs.YtjdepjanijambaaDoor
open Go.RowKit

/-- Words of 64 bits, and behind them noughts, 64 together. -/
def pcells (l : List Nat) : List Value := (List.range 64).map fun i => .int .u64 ((l.getD i 0 : Nat) : Int)
theorem pcells_length (l : List Nat) : (pcells l).length = 64 := by simp [pcells]
theorem pcells_get (l : List Nat) (i : Nat) (h : i < 64) : (pcells l).toArray[i]? = some (.int .u64 ((l.getD i 0 : Nat) : Int)) := by simp [pcells, h]
theorem pcells_nil : (pcells []).toArray = #[.int .u64 0, .int .u64 0, .int .u64 0, .int .u64 0, .int .u64 0, .int .u64 0, .int .u64 0, .int .u64 0, .int .u64 0, .int .u64 0, .int .u64 0, .int .u64 0, .int .u64 0, .int .u64 0, .int .u64 0, .int .u64 0, .int .u64 0, .int .u64 0, .int .u64 0, .int .u64 0, .int .u64 0, .int .u64 0, .int .u64 0, .int .u64 0, .int .u64 0, .int .u64 0, .int .u64 0, .int .u64 0, .int .u64 0, .int .u64 0, .int .u64 0, .int .u64 0, .int .u64 0, .int .u64 0, .int .u64 0, .int .u64 0, .int .u64 0, .int .u64 0, .int .u64 0, .int .u64 0, .int .u64 0, .int .u64 0, .int .u64 0, .int .u64 0, .int .u64 0, .int .u64 0, .int .u64 0, .int .u64 0, .int .u64 0, .int .u64 0, .int .u64 0, .int .u64 0, .int .u64 0, .int .u64 0, .int .u64 0, .int .u64 0, .int .u64 0, .int .u64 0, .int .u64 0, .int .u64 0, .int .u64 0, .int .u64 0, .int .u64 0, .int .u64 0] := rfl
theorem pcells_snoc (l : List Nat) (x : Nat) (h : l.length < 64) : (pcells l).toArray.setIfInBounds l.length (.int .u64 (x : Int)) = (pcells (l ++ [x])).toArray := by
  apply Array.ext_getElem?
  intro i
  rw [Array.getElem?_setIfInBounds]
  by_cases hi : i < 64
  · rw [pcells_get _ i hi, pcells_get _ i hi]
    by_cases e : l.length = i
    · subst e
      simp [pcells, h, List.getD]
    · rw [if_neg e]
      by_cases hl : i < l.length
      · simp [List.getD, List.getElem?_append, hl]
      · have h1 : l[i]? = none := List.getElem?_eq_none (by omega)
        have h2 : (l ++ [x])[i]? = none := List.getElem?_eq_none (by simp; omega)
        simp [List.getD, h1, h2]
  · have h1 : ¬ i < (pcells l).toArray.size := by simp [pcells]; omega
    have h2 : ¬ i < (pcells (l ++ [x])).toArray.size := by simp [pcells]; omega
    rw [if_neg (by omega), Array.getElem?_eq_none (by omega), Array.getElem?_eq_none (by omega)]
theorem pcells_one (l : List Nat) : (pcells l).toArray.all (·.oneCell') = true := all_oneCell_toArray (by intro v hv; simp [pcells] at hv; obtain ⟨i, _, rfl⟩ := hv; rfl)
theorem infoP : (Tryd.prog.info? 51).map (·.size) = some 64 := by kernel_rfl
theorem infoPs (l : List Nat) : (Tryd.prog.info? 51).map (·.size) = some (pcells l).toArray.size := by
  rw [List.size_toArray, pcells_length]
  exact infoP

/-- The inner loop, from divisor d on. -/
def inner (p : Nat) : Nat → Nat → Bool → Bool
  | 0, _, b => b
  | f + 1, d, b => if d * d ≤ p then inner p f (d + 1) (if p % d = 0 then false else b) else b
def isP (p : Nat) : Bool := inner p 40 2 true
/-- The outer loop. -/
def outer : Nat → Nat → List Nat → List Nat
  | 0, _, l => l
  | f + 1, p, l => if p < 1000 ∧ l.length < 64 then outer f (p + 1) (if isP p then l ++ [p] else l) else l
theorem inner_end (p f d : Nat) (b : Bool) (h : ¬ d * d ≤ p) : inner p f d b = b := by
  cases f with
  | zero => rfl
  | succ f => simp only [inner]; rw [if_neg h]
theorem outer_step (f q : Nat) (l : List Nat) (h : q < 1000 ∧ l.length < 64) : outer (f + 1) q l = outer f (q + 1) (if isP q then l ++ [q] else l) := if_pos h
def primes : List Nat := outer 998 2 []
theorem primes_are : primes = [2, 3, 5, 7, 11, 13, 17, 19, 23, 29, 31, 37, 41, 43, 47, 53, 59, 61, 67, 71, 73, 79, 83, 89, 97, 101, 103, 107, 109, 113, 127, 131, 137, 139, 149, 151, 157, 163, 167, 173, 179, 181, 191, 193, 197, 199, 211, 223, 227, 229, 233, 239, 241, 251, 257, 263, 269, 271, 277, 281, 283, 293, 307, 311] := by decide +kernel

/-- Between two rounds of the outer loop. -/
def PrRel (w : World) (n p : Value) (wr : World) : Prop :=
  ∃ (q : Nat) (l : List Nat), 2 ≤ q ∧ q ≤ 1000 ∧ l.length ≤ 64 ∧ n = .int .i64 (l.length : Int) ∧ p = .int .u64 (q : Int) ∧ outer (1000 - q) q l = primes ∧ Box wr w.heap.size 51 (pcells []).toArray ∧ Box wr (w.heap.size + 1) 51 (pcells l).toArray ∧ Below w.heap.size w wr

set_option maxRecDepth 100000 in
set_option maxHeartbeats 1000000 in
theorem primes_any (w : World) : Calls Tryd.prog 18 #[] w fun e w' => e = .returned (.agg (pcells primes).toArray) ∧ Below w.heap.size w w' := by
  go_enter Tryd.func18, Tryd.ntmps18
  go_wp2
  go_loopw [2, 3] (fun n p wr => PrRel w n p wr) (fun _ p _ => (1000 - intOf p).toNat)
  case atStart => exact ⟨2, [], by omega, by omega, by simp, rfl, rfl, rfl, by rw [pcells_nil]; exact (Box.made w _ _).alloc _, by rw [pcells_nil]; exact box1 w _ _ _, below2 w _ _⟩
  case round =>
    obtain ⟨q, l, hq2, hq, hl, rfl, rfl, ho, hR, hB, hb⟩ := hrel
    have HO := Lib.hid ho
    have HR := Lib.hid hR
    have HB := Lib.hid hB
    have HBL := Lib.hid hb
    clear ho hR hB hb
    by_cases hgo : q < 1000 ∧ l.length < 64
    · obtain ⟨hg1, hg2⟩ := hgo
      obtain ⟨N, hN⟩ : ∃ N, N = l.length := ⟨_, rfl⟩
      rw [← hN] at hg2 ⊢
      have HN := Lib.hid hN
      clear hN
      have d1 : decide ((q : Int) < 1000) = true := by simp; omega
      have d2 : decide ((N : Int) < 64) = true := by simp; omega
      go_wp2
      go_loop [4, 5] (fun b d => ∃ (D : Nat) (B : Bool), 2 ≤ D ∧ D ≤ 33 ∧ b = .bool B ∧ d = .int .u64 (D : Int) ∧ inner q (42 - D) D B = isP q) (fun _ d => (40 - intOf d).toNat)
      case atStart => exact ⟨2, true, by omega, by omega, rfl, rfl, rfl⟩
      case round =>
        obtain ⟨D, B, hD2, hD, rfl, rfl, hi⟩ := hrel
        have HI := Lib.hid hi
        clear hi
        obtain ⟨S, hS⟩ : ∃ S, S = D * D := ⟨_, rfl⟩
        have hS1 : S ≤ 1089 := by rw [hS]; exact Nat.mul_le_mul hD hD
        have eS : (D : Int) * (D : Int) = (S : Int) := by rw [hS]; simp
        by_cases hle : S ≤ q
        · have dle : decide ((S : Int) ≤ (q : Int)) = true := by simp; omega
          have hD31 : D ≤ 31 := by
            rcases Nat.lt_or_ge 31 D with h | h
            · have : 32 * 32 ≤ D * D := Nat.mul_le_mul h h
              omega
            · exact h
          obtain ⟨r, hr⟩ : ∃ r, r = q % D := ⟨_, rfl⟩
          have er : (q : Int).tmod (D : Int) = (r : Int) := by rw [Int.tmod_eq_emod_of_nonneg (by omega), hr]; simp
          have er' : (q : Int) % (D : Int) = (r : Int) := by rw [hr]; simp
          have hD0 : ((D : Int) == 0) = false := by simp; omega
          have hD0' : ¬ (D : Int) = 0 := by omega
          have hst : inner q (42 - (D + 1)) (D + 1) (if r = 0 then false else B) = isP q := by
            rw [← HI.out, show 42 - D = (42 - (D + 1)) + 1 by omega]
            simp only [inner]
            rw [← hS, ← hr, if_pos hle]
          have HST := Lib.hid hst
          clear hst
          clear hS hr
          by_cases hr0 : r = 0
          · subst hr0
            go_wp2
            go_round
            case rel => exact ⟨D + 1, false, by omega, by omega, rfl, by go_num, HST.out⟩
            case measure => simp [intOf]; omega
          · have dr : ((r : Int) == 0) = false := by simp; omega
            have HR0 := Lib.hid hr0
            clear hr0
            go_wp2
            go_round
            case rel => exact ⟨D + 1, B, by omega, by omega, rfl, by go_num, by have := HST.out; rw [if_neg HR0.out] at this; exact this⟩
            case measure => simp [intOf]; omega
        · have dle : decide ((S : Int) ≤ (q : Int)) = false := by simp; omega
          have hB : B = isP q := by rw [← HI.out, inner_end q _ D B (by rw [← hS]; exact hle)]
          have hnx : outer (1000 - (q + 1)) (q + 1) (if isP q then l ++ [q] else l) = primes := by
            rw [← HO.out, show 1000 - q = (1000 - (q + 1)) + 1 by omega]
            rw [outer_step _ q l ⟨hg1, by have := HN.out; omega⟩]
          rw [← hB] at hnx
          have HNX := Lib.hid hnx
          clear hnx hS
          cases B with
          | true =>
            clear hB HI
            have cw := (HB.out.cell N).trans (pcells_get l N (by omega))
            have fw := HB.out.frozen N
            have l4 : (N : Int) < 64 := by omega
            go_wp2
            go_roundw
            case rel =>
              refine ⟨q + 1, l ++ [q], by omega, by omega, by have := HN.out; rw [List.length_append, List.length_singleton]; omega, by have := HN.out; rw [List.length_append, List.length_singleton]; congr 1; omega, by go_num, HNX.out, HR.out.other _ _ (by show w.heap.size ≠ w.heap.size + 1; omega), ?_, HBL.out.setCell (by show w.heap.size ≤ w.heap.size + 1; omega) _⟩
              have e := pcells_snoc l q (by have := HN.out; omega)
              rw [← e, ← HN.out]
              exact HB.out.put N _
            case measure => simp [intOf]; omega
          | false =>
            clear hB HI
            go_wp2
            go_roundw
            case rel => exact ⟨q + 1, l, by omega, by omega, by omega, by have := HN.out; congr 1; omega, by go_num, HNX.out, HR.out, HB.out, HBL.out⟩
            case measure => simp [intOf]; omega
    · have hend : l = primes := by
        rw [← HO.out]
        cases hf : 1000 - q with
        | zero => rfl
        | succ f => exact (if_neg hgo).symm
      have HE := Lib.hid hend
      clear hend
      by_cases h1 : q < 1000
      · have hN64 : l.length = 64 := by omega
        have d1 : decide ((q : Int) < 1000) = true := by simp; omega
        have d2 : decide ((l.length : Int) < 64) = false := by simp; omega
        have HN64 := Lib.hid hN64
        clear hN64 hgo
        go_wp2_with (first | (refine wpList_load_row rfl 51 _ rfl (w.heap.size + 1) rfl 51 _ (0, 0) _ HB.out Tryd.underlying51 rfl (infoPs _) ?_) | (refine wpList_store_row rfl 51 _ _ rfl w.heap.size (pcells l).toArray rfl rfl 51 _ HR.out (infoPs _) (by simp [pcells_length]) (pcells_one _) ?_))
        rw [← HE.out]
        exact bodyPost_ret (v := .agg (pcells l).toArray) (results_cell_row (P := Tryd.prog) (p := 0) (ty := 51) Tryd.results18 _ _ w.heap.size 51 _ (0, 0) _ rfl (setRow_heap _ _ _ _ _ _ HR.out) Tryd.underlying51 rfl (infoPs _)) rfl ⟨rfl, below_setRow HBL.out (Nat.le_refl _) _⟩
      · have d1 : decide ((q : Int) < 1000) = false := by simp; omega
        clear hgo
        go_wp2_with (first | (refine wpList_load_row rfl 51 _ rfl (w.heap.size + 1) rfl 51 _ (0, 0) _ HB.out Tryd.underlying51 rfl (infoPs _) ?_) | (refine wpList_store_row rfl 51 _ _ rfl w.heap.size (pcells l).toArray rfl rfl 51 _ HR.out (infoPs _) (by simp [pcells_length]) (pcells_one _) ?_))
        rw [← HE.out]
        exact bodyPost_ret (v := .agg (pcells l).toArray) (results_cell_row (P := Tryd.prog) (p := 0) (ty := 51) Tryd.results18 _ _ w.heap.size 51 _ (0, 0) _ rfl (setRow_heap _ _ _ _ _ _ HR.out) Tryd.underlying51 rfl (infoPs _)) rfl ⟨rfl, below_setRow HBL.out (Nat.le_refl _) _⟩
end Go.Proofs.YtjdepjanijambaaDoor
