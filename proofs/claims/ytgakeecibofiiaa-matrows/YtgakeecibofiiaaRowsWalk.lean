/-
  MatRows walked.
-/
import Derived.Test.YtgakeecibofiiaaRowsWalkA
import Derived.Test.YtgakeecibofiiaaRowsWalkB
import Derived.Test.YtgakeecibofiiaaRowsWalkC
import Derived.Test.YtgakeecibofiiaaRowsWalkD
namespace Go.Proofs.Ytgakeecibofiiaa
open Go.RowKit Go.Shelf

set_option maxRecDepth 100000 in
set_option maxHeartbeats 1000000 in
theorem matRows_walk (A : Option Addr) (n c : Nat) (M : List (List UInt8)) (B : Option Addr) (m d : Nat) (O : List (List UInt8)) (C : Option Addr) (k e : Nat) (l : List Int) (w : World) (hM : Mtx w A n c M) (hO : Mtx w B m d O) (hC : Lies w (fun _ => True) C k e (ics l)) : Calls Try.prog 7 #[.slice A n c, .slice B m d, .slice C k e] w fun e w' => e = .returned (.bool true) ∧ Below w.heap.size w w' := by
  by_cases f1 : fewB M 20
  · by_cases f2 : fewB O 20
    · by_cases f3 : 300 < k
      · have HB := Lib.hid (Below.refl w.heap.size w)
        have HA := Lib.hid hM
        have HO := Lib.hid hO
        have f3' : (300 : Int) < (k : Int) := by omega
        have fewA : ∀ W, Mtx W A n c M → Calls Try.prog 10 #[.slice A n c, .int .i64 20] W fun e w' => e = .returned (.int .i64 1) ∧ w' = W := fun W h => by have h1 := few_says W A n c M h 20 (by omega); rwa [if_pos f1] at h1
        have fewO : ∀ W, Mtx W B m d O → Calls Try.prog 10 #[.slice B m d, .int .i64 20] W fun e w' => e = .returned (.int .i64 1) ∧ w' = W := fun W h => by have h1 := few_says W B m d O h 20 (by omega); rwa [if_pos f2] at h1
        go_enter Try.func7, Try.ntmps7
        go_wp2_with (first
          | (go_at_call 10; (with_reducible refine (fewA _ HA.out).mono ?_); rintro e wn ⟨rfl, hwn⟩; replace hwn := hwn.symm; subst hwn; skip)
          | (go_at_call 10; (with_reducible refine (fewO _ HO.out).mono ?_); rintro e wn ⟨rfl, hwn⟩; replace hwn := hwn.symm; subst hwn; skip))
        go_ret
        exact ⟨rfl, HB.out⟩
      · by_cases hr : RightM M
        · by_cases hk1 : (1 : Int) ≤ (k : Int)
          · by_cases hk2 : (k : Int) ≤ 255
            · exact matRows_A A n c M B m d O C k e l w hM hO hC f1 f2 f3 (decide_eq_true hr) hk1 hk2
            · exact matRows_B A n c M B m d O C k e l w hM hO hC f1 f2 f3 (decide_eq_true hr) hk1 hk2
          · exact matRows_C A n c M B m d O C k e l w hM hO hC f1 f2 f3 (decide_eq_true hr) hk1
        · exact matRows_D A n c M B m d O C k e l w hM hO hC f1 f2 f3 (decide_eq_false hr)
    · have HB := Lib.hid (Below.refl w.heap.size w)
      have HA := Lib.hid hM
      have HO := Lib.hid hO
      have fewA : ∀ W, Mtx W A n c M → Calls Try.prog 10 #[.slice A n c, .int .i64 20] W fun e w' => e = .returned (.int .i64 1) ∧ w' = W := fun W h => by have h1 := few_says W A n c M h 20 (by omega); rwa [if_pos f1] at h1
      have fewO : ∀ W, Mtx W B m d O → Calls Try.prog 10 #[.slice B m d, .int .i64 20] W fun e w' => e = .returned (.int .i64 0) ∧ w' = W := fun W h => by have h1 := few_says W B m d O h 20 (by omega); rwa [if_neg f2] at h1
      go_enter Try.func7, Try.ntmps7
      go_wp2_with (first
        | (go_at_call 10; (with_reducible refine (fewA _ HA.out).mono ?_); rintro e wn ⟨rfl, hwn⟩; replace hwn := hwn.symm; subst hwn; skip)
        | (go_at_call 10; (with_reducible refine (fewO _ HO.out).mono ?_); rintro e wn ⟨rfl, hwn⟩; replace hwn := hwn.symm; subst hwn; skip))
      go_ret
      exact ⟨rfl, HB.out⟩
  · have HB := Lib.hid (Below.refl w.heap.size w)
    have HA := Lib.hid hM
    have fewA : ∀ W, Mtx W A n c M → Calls Try.prog 10 #[.slice A n c, .int .i64 20] W fun e w' => e = .returned (.int .i64 0) ∧ w' = W := fun W h => by have h1 := few_says W A n c M h 20 (by omega); rwa [if_neg f1] at h1
    go_enter Try.func7, Try.ntmps7
    go_wp2_with (first
      | (go_at_call 10; (with_reducible refine (fewA _ HA.out).mono ?_); rintro e wn ⟨rfl, hwn⟩; replace hwn := hwn.symm; subst hwn; skip))
    go_ret
    exact ⟨rfl, HB.out⟩
end Go.Proofs.Ytgakeecibofiiaa
