/-
  The contract of the ending.
-/
import Derived.Test.YtjdepjanijambaaDoorSmall
namespace Go.Proofs.YtjdepjanijambaaDoor
open Go.RowKit

/-- The k lowest bytes of x, the highest first. -/
def low : Nat → Nat → List UInt8
  | 0, _ => []
  | k + 1, x => UInt8.ofNat (x / 256 ^ k % 256) :: low k x
theorem low_length (k x : Nat) : (low k x).length = k := by
  induction k with
  | zero => rfl
  | succ k ih => simp [low, ih]
/-- How many noughts come behind n bytes; what comes behind them. -/
def padZ (n : Nat) : Nat := (64 - (n + 9) % 64) % 64
def pad (n : Nat) : List UInt8 := 128 :: (List.replicate (padZ n) 0 ++ low 8 (8 * n))
/-- The ending as it is made: k of the last bytes are laid. -/
def padK (z x k : Nat) : List UInt8 := 128 :: (List.replicate (z + 8 - k) 0 ++ low k x)
theorem padK_length (z x k : Nat) (h : k ≤ 8) : (padK z x k).length = z + 9 := by simp [padK, low_length]; omega
theorem byteRow : (Tryd.prog.info? 5).map (fun i => (i.zero, i.size, i.bytes)) = some (some (.int .u8 0), 1, 1) := by kernel_rfl
theorem made_noughts (m : Nat) : madeCells #[Value.int .u8 0] m = (List.replicate m (Value.int .u8 0)).toArray := by
  apply Array.ext
  · simp [size_madeCells]
  · intro i h1 h2
    simp [madeCells, Nat.mod_one]

theorem padK_start (z x : Nat) : (bc (padK z x 0)).toArray = (madeCells #[Value.int .u8 0] (z + 9)).setIfInBounds 0 (.int .u8 128) := by
  rw [made_noughts]
  have : List.replicate (z + 9) (Value.int .u8 0) = .int .u8 0 :: List.replicate (z + 8) (.int .u8 0) := rfl
  rw [this]
  simp [padK, low, bc]
theorem padK_next (z x k : Nat) (h : k < 8) : (bc (padK z x k)).toArray.setIfInBounds (z + 9 - 1 - k) (.int .u8 ((x / 256 ^ k % 256 : Nat) : Int)) = (bc (padK z x (k + 1))).toArray := by
  have e1 : padK z x k = (128 :: List.replicate (z + 8 - (k + 1)) 0) ++ (0 :: low k x) := by
    unfold padK
    rw [show z + 8 - k = (z + 8 - (k + 1)) + 1 by omega, List.replicate_succ', List.append_assoc]
    rfl
  have e2 : padK z x (k + 1) = (128 :: List.replicate (z + 8 - (k + 1)) 0) ++ (UInt8.ofNat (x / 256 ^ k % 256) :: low k x) := rfl
  have hl : (bc (128 :: List.replicate (z + 8 - (k + 1)) (0 : UInt8))).length = z + 9 - 1 - k := by
    rw [bc_length]
    simp
    omega
  rw [e1, e2, bc_append, bc_append, List.setIfInBounds_toArray, ← hl, List.set_append_right _ _ (Nat.le_refl _), Nat.sub_self]
  congr 2
  simp only [bc, List.map_cons, List.set_cons_zero]
  congr 3
  simp

theorem low_int (n k : Nat) : (8 * (n : Int) / 2 ^ (8 * k) % 256) = ((8 * n / 256 ^ k % 256 : Nat) : Int) := by
  have : (256 : Nat) ^ k = 2 ^ (8 * k) := by rw [Nat.pow_mul]
  rw [this]
  simp

set_option maxHeartbeats 1000000 in
theorem ending_any (n : Nat) (w : World) (hn : n < 1152921504606846976) :
    Calls Tryd.prog 23 #[.int .u64 (n : Int)] w fun e w' => e = .returned (.slice (some ⟨w.heap.size, 0, none⟩) (pad n).length (pad n).length) ∧ Box w' w.heap.size 5 (bc (pad n)).toArray ∧ Below w.heap.size w w' := by
  obtain ⟨z, hz⟩ : ∃ z, z = padZ n := ⟨_, rfl⟩
  obtain ⟨M, hM⟩ : ∃ M, M = z + 9 := ⟨_, rfl⟩
  have hz64 : z < 64 := by rw [hz]; unfold padZ; omega
  have em : 1 + -(((n : Int) + 1 + 8) % 64) % 64 + 8 = (M : Int) := by
    rw [hM, hz]
    unfold padZ
    omega
  have hmk := fun wq => run_make_row' (P := Tryd.prog) 32 5 (.int .u8 0) 1 Tryd.underlying32 byteRow rfl .u64 .u64 M (by omega) (by omega) wq
  have hM0 : (0 : Int) < (M : Int) := by omega
  have HM := Lib.hid hM
  have HZ := Lib.hid hz
  clear hM hz
  have c0 : (madeCells #[Value.int .u8 0] M)[0]? = some (.int .u8 0) := by
    rw [made_noughts, List.getElem?_toArray, List.getElem?_replicate, if_pos (by omega)]
  go_enter Tryd.func23, Tryd.ntmps23
  go_wp2
  clear em hmk c0
  go_loopw [23] (fun i wr => ∃ k : Nat, k ≤ 8 ∧ i = .int .i64 (k : Int) ∧ Box wr w.heap.size 5 (bc (padK z (8 * n) k)).toArray ∧ Below w.heap.size w wr) (fun i _ => 8 - (intOf i).toNat)
  case atStart =>
    refine ⟨0, by omega, rfl, ?_, below1 w _⟩
    have := Box.made w 5 (bc (padK z (8 * n) 0)).toArray
    rw [padK_start] at this ⊢
    rw [← HM.out] at this ⊢
    exact this
  case round =>
    obtain ⟨k, hk, rfl, hbx, hb⟩ := hrel
    by_cases hlt : k < 8
    · obtain ⟨v, cw⟩ : ∃ v, wr.cell? ⟨w.heap.size, M - 1 - k, none⟩ = some v := by
        rw [hbx.cell]
        have : M - 1 - k < (bc (padK z (8 * n) k)).toArray.size := by rw [List.size_toArray, bc_length, padK_length z _ k hk, HM.out]; omega
        exact ⟨_, Array.getElem?_eq_getElem this⟩
      have fw := hbx.frozen (M - 1 - k)
      have HBX := Lib.hid hbx
      have HB := Lib.hid hb
      clear hbx hb
      have hMk : 9 ≤ M := by have := HM.out; omega
      have hMz : M < 73 := by have := HM.out; omega
      have p0 : 0 ≤ (M : Int) - 1 - (k : Int) := by omega
      have l0 : (M : Int) - 1 - (k : Int) < (M : Int) := by omega
      have q0 : ((M : Int) - 1 - (k : Int)).toNat = M - 1 - k := by omega
      have p1 : 0 ≤ 8 * (k : Int) := by omega
      have l1 : 8 * (k : Int) ≤ 64 := by omega
      have q1 : (8 * (k : Int)).toNat = 8 * k := by omega
      go_wp2
      go_roundw
      case rel =>
        refine ⟨k + 1, by omega, by go_num, ?_, HB.out.setCell (by show w.heap.size ≤ w.heap.size; omega) _⟩
        rw [low_int, ← padK_next z (8 * n) k hlt, ← HM.out]
        exact HBX.out.put _ _
      case measure => simp [intOf]; omega
    · obtain rfl : k = 8 := by omega
      have HBX := Lib.hid hbx
      have HB := Lib.hid hb
      clear hbx hb
      go_wp2
      go_ret
      have e : pad n = padK z (8 * n) 8 := by rw [HZ.out]; rfl
      rw [e, padK_length z _ 8 (Nat.le_refl _), ← HM.out]
      exact ⟨rfl, HBX.out, HB.out⟩
end Go.Proofs.YtjdepjanijambaaDoor
