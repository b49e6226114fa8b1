/-
  Contracts of turning a word, in package sha and in the reference.
-/
import Derived.Test.YtjdepjanijambaaDoorProg
import Derived.Test.YtjdepjanijambaaDoorPure
import Derived.WalkKit
import Derived.WalkLawsBesides
import Derived.WalkSpells
import Derived.Lib.Hide
import Derived.Deep.QuietTactic
namespace Go.Proofs.YtjdepjanijambaaDoor
open Go.RowKit

theorem neg2 : bits .and .u64 (IntKind.u64.wrap (-2)) 31 = 30 := by decide +kernel
theorem neg6 : bits .and .u64 (IntKind.u64.wrap (-6)) 31 = 26 := by decide +kernel
theorem neg7 : bits .and .u64 (IntKind.u64.wrap (-7)) 31 = 25 := by decide +kernel
theorem neg11 : bits .and .u64 (IntKind.u64.wrap (-11)) 31 = 21 := by decide +kernel
theorem neg13 : bits .and .u64 (IntKind.u64.wrap (-13)) 31 = 19 := by decide +kernel
theorem neg17 : bits .and .u64 (IntKind.u64.wrap (-17)) 31 = 15 := by decide +kernel
theorem neg18 : bits .and .u64 (IntKind.u64.wrap (-18)) 31 = 14 := by decide +kernel
theorem neg19 : bits .and .u64 (IntKind.u64.wrap (-19)) 31 = 13 := by decide +kernel
theorem neg22 : bits .and .u64 (IntKind.u64.wrap (-22)) 31 = 10 := by decide +kernel
theorem neg25 : bits .and .u64 (IntKind.u64.wrap (-25)) 31 = 7 := by decide +kernel
theorem rot_ret (x n : Nat) : Ending.returned (.int .u32 (bits .or .u32 (IntKind.u32.wrap ((x : Int) * 2 ^ (32 - n))) ((x : Int) / 2 ^ n))) = .returned (.int .u32 (rot x n)) := by
  have e1 : IntKind.u32.wrap ((x : Int) * 2 ^ (32 - n)) = ((l32 x (32 - n) : Nat) : Int) := by
    have : ((x : Int) * 2 ^ (32 - n)) = ((x * 2 ^ (32 - n) : Nat) : Int) := by simp
    rw [this, wrap32_nat]
    rfl
  have e2 : ((x : Int) / 2 ^ n) = ((s32 x n : Nat) : Int) := by simp [s32]
  rw [e1, e2, bits_o32]
  rfl
theorem rot_ret' (x n : Nat) : Ending.returned (.int .u32 (bits .or .u32 ((x : Int) / 2 ^ n) (IntKind.u32.wrap ((x : Int) * 2 ^ (32 - n))))) = .returned (.int .u32 (rot x n)) := by
  have e1 : IntKind.u32.wrap ((x : Int) * 2 ^ (32 - n)) = ((l32 x (32 - n) : Nat) : Int) := by
    have : ((x : Int) * 2 ^ (32 - n)) = ((x * 2 ^ (32 - n) : Nat) : Int) := by simp
    rw [this, wrap32_nat]
    rfl
  have e2 : ((x : Int) / 2 ^ n) = ((s32 x n : Nat) : Int) := by simp [s32]
  rw [e1, e2, bits_o32, o32_comm]
  rfl
theorem rotl2 (x : Nat) (w : World) : Calls Tryd.prog 30 #[.int .u32 x, .int .i64 (-2)] w fun e w' => e = .returned (.int .u32 (rot x 2)) ∧ w = w' := by
  have hn := neg2
  go_enter Tryd.func30, Tryd.ntmps30
  go_wp2
  go_ret
  exact ⟨rot_ret x 2, rfl⟩
theorem rotl6 (x : Nat) (w : World) : Calls Tryd.prog 30 #[.int .u32 x, .int .i64 (-6)] w fun e w' => e = .returned (.int .u32 (rot x 6)) ∧ w = w' := by
  have hn := neg6
  go_enter Tryd.func30, Tryd.ntmps30
  go_wp2
  go_ret
  exact ⟨rot_ret x 6, rfl⟩
theorem rotl7 (x : Nat) (w : World) : Calls Tryd.prog 30 #[.int .u32 x, .int .i64 (-7)] w fun e w' => e = .returned (.int .u32 (rot x 7)) ∧ w = w' := by
  have hn := neg7
  go_enter Tryd.func30, Tryd.ntmps30
  go_wp2
  go_ret
  exact ⟨rot_ret x 7, rfl⟩
theorem rotl11 (x : Nat) (w : World) : Calls Tryd.prog 30 #[.int .u32 x, .int .i64 (-11)] w fun e w' => e = .returned (.int .u32 (rot x 11)) ∧ w = w' := by
  have hn := neg11
  go_enter Tryd.func30, Tryd.ntmps30
  go_wp2
  go_ret
  exact ⟨rot_ret x 11, rfl⟩
theorem rotl13 (x : Nat) (w : World) : Calls Tryd.prog 30 #[.int .u32 x, .int .i64 (-13)] w fun e w' => e = .returned (.int .u32 (rot x 13)) ∧ w = w' := by
  have hn := neg13
  go_enter Tryd.func30, Tryd.ntmps30
  go_wp2
  go_ret
  exact ⟨rot_ret x 13, rfl⟩
theorem rotl17 (x : Nat) (w : World) : Calls Tryd.prog 30 #[.int .u32 x, .int .i64 (-17)] w fun e w' => e = .returned (.int .u32 (rot x 17)) ∧ w = w' := by
  have hn := neg17
  go_enter Tryd.func30, Tryd.ntmps30
  go_wp2
  go_ret
  exact ⟨rot_ret x 17, rfl⟩
theorem rotl18 (x : Nat) (w : World) : Calls Tryd.prog 30 #[.int .u32 x, .int .i64 (-18)] w fun e w' => e = .returned (.int .u32 (rot x 18)) ∧ w = w' := by
  have hn := neg18
  go_enter Tryd.func30, Tryd.ntmps30
  go_wp2
  go_ret
  exact ⟨rot_ret x 18, rfl⟩
theorem rotl19 (x : Nat) (w : World) : Calls Tryd.prog 30 #[.int .u32 x, .int .i64 (-19)] w fun e w' => e = .returned (.int .u32 (rot x 19)) ∧ w = w' := by
  have hn := neg19
  go_enter Tryd.func30, Tryd.ntmps30
  go_wp2
  go_ret
  exact ⟨rot_ret x 19, rfl⟩
theorem rotl22 (x : Nat) (w : World) : Calls Tryd.prog 30 #[.int .u32 x, .int .i64 (-22)] w fun e w' => e = .returned (.int .u32 (rot x 22)) ∧ w = w' := by
  have hn := neg22
  go_enter Tryd.func30, Tryd.ntmps30
  go_wp2
  go_ret
  exact ⟨rot_ret x 22, rfl⟩
theorem rotl25 (x : Nat) (w : World) : Calls Tryd.prog 30 #[.int .u32 x, .int .i64 (-25)] w fun e w' => e = .returned (.int .u32 (rot x 25)) ∧ w = w' := by
  have hn := neg25
  go_enter Tryd.func30, Tryd.ntmps30
  go_wp2
  go_ret
  exact ⟨rot_ret x 25, rfl⟩
theorem turn2 (x : Nat) (w : World) : Calls Tryd.prog 27 #[.int .u32 x, .int .i64 2] w fun e w' => e = .returned (.int .u32 (rot x 2)) ∧ w = w' := by
  go_enter Tryd.func27, Tryd.ntmps27
  go_wp2_with (refine (rotl2 _ _).mono ?_; rintro e w' ⟨rfl, rfl⟩)
  go_ret
  exact ⟨rfl, rfl⟩
theorem rturn2 (x : Nat) (w : World) : Calls Tryd.prog 29 #[.int .u32 x, .int .i64 2] w fun e w' => e = .returned (.int .u32 (rot x 2)) ∧ w = w' := by
  go_enter Tryd.func29, Tryd.ntmps29
  go_wp2
  go_ret
  exact ⟨rot_ret' x 2, rfl⟩
theorem turn6 (x : Nat) (w : World) : Calls Tryd.prog 27 #[.int .u32 x, .int .i64 6] w fun e w' => e = .returned (.int .u32 (rot x 6)) ∧ w = w' := by
  go_enter Tryd.func27, Tryd.ntmps27
  go_wp2_with (refine (rotl6 _ _).mono ?_; rintro e w' ⟨rfl, rfl⟩)
  go_ret
  exact ⟨rfl, rfl⟩
theorem rturn6 (x : Nat) (w : World) : Calls Tryd.prog 29 #[.int .u32 x, .int .i64 6] w fun e w' => e = .returned (.int .u32 (rot x 6)) ∧ w = w' := by
  go_enter Tryd.func29, Tryd.ntmps29
  go_wp2
  go_ret
  exact ⟨rot_ret' x 6, rfl⟩
theorem turn7 (x : Nat) (w : World) : Calls Tryd.prog 27 #[.int .u32 x, .int .i64 7] w fun e w' => e = .returned (.int .u32 (rot x 7)) ∧ w = w' := by
  go_enter Tryd.func27, Tryd.ntmps27
  go_wp2_with (refine (rotl7 _ _).mono ?_; rintro e w' ⟨rfl, rfl⟩)
  go_ret
  exact ⟨rfl, rfl⟩
theorem rturn7 (x : Nat) (w : World) : Calls Tryd.prog 29 #[.int .u32 x, .int .i64 7] w fun e w' => e = .returned (.int .u32 (rot x 7)) ∧ w = w' := by
  go_enter Tryd.func29, Tryd.ntmps29
  go_wp2
  go_ret
  exact ⟨rot_ret' x 7, rfl⟩
theorem turn11 (x : Nat) (w : World) : Calls Tryd.prog 27 #[.int .u32 x, .int .i64 11] w fun e w' => e = .returned (.int .u32 (rot x 11)) ∧ w = w' := by
  go_enter Tryd.func27, Tryd.ntmps27
  go_wp2_with (refine (rotl11 _ _).mono ?_; rintro e w' ⟨rfl, rfl⟩)
  go_ret
  exact ⟨rfl, rfl⟩
theorem rturn11 (x : Nat) (w : World) : Calls Tryd.prog 29 #[.int .u32 x, .int .i64 11] w fun e w' => e = .returned (.int .u32 (rot x 11)) ∧ w = w' := by
  go_enter Tryd.func29, Tryd.ntmps29
  go_wp2
  go_ret
  exact ⟨rot_ret' x 11, rfl⟩
theorem turn13 (x : Nat) (w : World) : Calls Tryd.prog 27 #[.int .u32 x, .int .i64 13] w fun e w' => e = .returned (.int .u32 (rot x 13)) ∧ w = w' := by
  go_enter Tryd.func27, Tryd.ntmps27
  go_wp2_with (refine (rotl13 _ _).mono ?_; rintro e w' ⟨rfl, rfl⟩)
  go_ret
  exact ⟨rfl, rfl⟩
theorem rturn13 (x : Nat) (w : World) : Calls Tryd.prog 29 #[.int .u32 x, .int .i64 13] w fun e w' => e = .returned (.int .u32 (rot x 13)) ∧ w = w' := by
  go_enter Tryd.func29, Tryd.ntmps29
  go_wp2
  go_ret
  exact ⟨rot_ret' x 13, rfl⟩
theorem turn17 (x : Nat) (w : World) : Calls Tryd.prog 27 #[.int .u32 x, .int .i64 17] w fun e w' => e = .returned (.int .u32 (rot x 17)) ∧ w = w' := by
  go_enter Tryd.func27, Tryd.ntmps27
  go_wp2_with (refine (rotl17 _ _).mono ?_; rintro e w' ⟨rfl, rfl⟩)
  go_ret
  exact ⟨rfl, rfl⟩
theorem rturn17 (x : Nat) (w : World) : Calls Tryd.prog 29 #[.int .u32 x, .int .i64 17] w fun e w' => e = .returned (.int .u32 (rot x 17)) ∧ w = w' := by
  go_enter Tryd.func29, Tryd.ntmps29
  go_wp2
  go_ret
  exact ⟨rot_ret' x 17, rfl⟩
theorem turn18 (x : Nat) (w : World) : Calls Tryd.prog 27 #[.int .u32 x, .int .i64 18] w fun e w' => e = .returned (.int .u32 (rot x 18)) ∧ w = w' := by
  go_enter Tryd.func27, Tryd.ntmps27
  go_wp2_with (refine (rotl18 _ _).mono ?_; rintro e w' ⟨rfl, rfl⟩)
  go_ret
  exact ⟨rfl, rfl⟩
theorem rturn18 (x : Nat) (w : World) : Calls Tryd.prog 29 #[.int .u32 x, .int .i64 18] w fun e w' => e = .returned (.int .u32 (rot x 18)) ∧ w = w' := by
  go_enter Tryd.func29, Tryd.ntmps29
  go_wp2
  go_ret
  exact ⟨rot_ret' x 18, rfl⟩
theorem turn19 (x : Nat) (w : World) : Calls Tryd.prog 27 #[.int .u32 x, .int .i64 19] w fun e w' => e = .returned (.int .u32 (rot x 19)) ∧ w = w' := by
  go_enter Tryd.func27, Tryd.ntmps27
  go_wp2_with (refine (rotl19 _ _).mono ?_; rintro e w' ⟨rfl, rfl⟩)
  go_ret
  exact ⟨rfl, rfl⟩
theorem rturn19 (x : Nat) (w : World) : Calls Tryd.prog 29 #[.int .u32 x, .int .i64 19] w fun e w' => e = .returned (.int .u32 (rot x 19)) ∧ w = w' := by
  go_enter Tryd.func29, Tryd.ntmps29
  go_wp2
  go_ret
  exact ⟨rot_ret' x 19, rfl⟩
theorem turn22 (x : Nat) (w : World) : Calls Tryd.prog 27 #[.int .u32 x, .int .i64 22] w fun e w' => e = .returned (.int .u32 (rot x 22)) ∧ w = w' := by
  go_enter Tryd.func27, Tryd.ntmps27
  go_wp2_with (refine (rotl22 _ _).mono ?_; rintro e w' ⟨rfl, rfl⟩)
  go_ret
  exact ⟨rfl, rfl⟩
theorem rturn22 (x : Nat) (w : World) : Calls Tryd.prog 29 #[.int .u32 x, .int .i64 22] w fun e w' => e = .returned (.int .u32 (rot x 22)) ∧ w = w' := by
  go_enter Tryd.func29, Tryd.ntmps29
  go_wp2
  go_ret
  exact ⟨rot_ret' x 22, rfl⟩
theorem turn25 (x : Nat) (w : World) : Calls Tryd.prog 27 #[.int .u32 x, .int .i64 25] w fun e w' => e = .returned (.int .u32 (rot x 25)) ∧ w = w' := by
  go_enter Tryd.func27, Tryd.ntmps27
  go_wp2_with (refine (rotl25 _ _).mono ?_; rintro e w' ⟨rfl, rfl⟩)
  go_ret
  exact ⟨rfl, rfl⟩
theorem rturn25 (x : Nat) (w : World) : Calls Tryd.prog 29 #[.int .u32 x, .int .i64 25] w fun e w' => e = .returned (.int .u32 (rot x 25)) ∧ w = w' := by
  go_enter Tryd.func29, Tryd.ntmps29
  go_wp2
  go_ret
  exact ⟨rot_ret' x 25, rfl⟩

/-- By so many bits words are turned. -/
def turnsB (n : Int) : Bool := [2, 6, 7, 11, 13, 17, 18, 19, 22, 25].contains n
theorem turns_cases {n : Int} (h : turnsB n = true) : n = 2 ∨ n = 6 ∨ n = 7 ∨ n = 11 ∨ n = 13 ∨ n = 17 ∨ n = 18 ∨ n = 19 ∨ n = 22 ∨ n = 25 := by
  simpa [turnsB] using h
theorem turn_any (x : Nat) (n : Int) (h : turnsB n = true) (w : World) : Calls Tryd.prog 27 #[.int .u32 x, .int .i64 n] w fun e w' => e = .returned (.int .u32 (rot x n.toNat)) ∧ w = w' := by
  rcases turns_cases h with rfl | rfl | rfl | rfl | rfl | rfl | rfl | rfl | rfl | rfl
  · exact turn2 x w
  · exact turn6 x w
  · exact turn7 x w
  · exact turn11 x w
  · exact turn13 x w
  · exact turn17 x w
  · exact turn18 x w
  · exact turn19 x w
  · exact turn22 x w
  · exact turn25 x w
theorem rturn_any (x : Nat) (n : Int) (h : turnsB n = true) (w : World) : Calls Tryd.prog 29 #[.int .u32 x, .int .i64 n] w fun e w' => e = .returned (.int .u32 (rot x n.toNat)) ∧ w = w' := by
  rcases turns_cases h with rfl | rfl | rfl | rfl | rfl | rfl | rfl | rfl | rfl | rfl
  · exact rturn2 x w
  · exact rturn6 x w
  · exact rturn7 x w
  · exact rturn11 x w
  · exact rturn13 x w
  · exact rturn17 x w
  · exact rturn18 x w
  · exact rturn19 x w
  · exact rturn22 x w
  · exact rturn25 x w
theorem turn_quiet (x : Nat) (n : Int) (h : turnsB n = true) (w : World) (k : Nat) : Calls Tryd.prog 27 #[.int .u32 x, .int .i64 n] (w.drewN k) fun e w' => e = .returned (.int .u32 (rot x n.toNat)) ∧ ∃ m, w' = w.drewN m :=
  (turn_any x n h _).mono fun _ _ hh => ⟨hh.1, k, hh.2.symm⟩
theorem rturn_quiet (x : Nat) (n : Int) (h : turnsB n = true) (w : World) (k : Nat) : Calls Tryd.prog 29 #[.int .u32 x, .int .i64 n] (w.drewN k) fun e w' => e = .returned (.int .u32 (rot x n.toNat)) ∧ ∃ m, w' = w.drewN m :=
  (rturn_any x n h _).mono fun _ _ hh => ⟨hh.1, k, hh.2.symm⟩

end Go.Proofs.YtjdepjanijambaaDoor
