/-
  MatMul walked, all ways.
-/
import Derived.Test.YtgakeecibofiiaaMulFit
import Derived.Test.YtgakeecibofiiaaMulTwo
import Derived.Test.YtgakeecibofiiaaMulWide
import Derived.Test.YtgakeecibofiiaaMulBare
import Derived.Test.YtgakeecibofiiaaMulOdd
import Derived.Test.YtgakeecibofiiaaMulNot
namespace Go.Proofs.Ytgakeecibofiiaa
open Go.RowKit Go.Shelf

set_option maxRecDepth 100000 in
set_option maxHeartbeats 4000000 in
theorem matMul_walk (A : Option Addr) (n c : Nat) (a : List (List UInt8)) (B : Option Addr) (m d : Nat) (b : List (List UInt8)) (w : World) (ha : Mtx w A n c a) (hb : Mtx w B m d b) : Calls Try.prog 3 #[.slice A n c, .slice B m d] w fun e w' => e = .returned (.bool true) ∧ Below w.heap.size w w' := by
  by_cases f1 : fewB a 12
  · by_cases f2 : fewB b 12
    · by_cases hra : RightM a
      · by_cases hrb : RightM b
        · by_cases hco : colsOf a = m
          · exact matMul_fit A n c a B m d b w ha hb f1 f2 hra hrb hco
          · exact matMul_Two A n c a B m d b w ha hb f1 f2 hra hrb hco
        · by_cases hco : colsOf a = m
          · rcases Bool.eq_false_or_eq_true (levelB b) with hlev | hlev
            · exact matMul_Bare A n c a B m d b w ha hb f1 f2 hra hrb hco hlev
            · exact matMul_Odd A n c a B m d b w ha hb f1 f2 hra hrb hco hlev
          · exact matMul_Wide A n c a B m d b w ha hb f1 f2 hra hrb hco
      · exact matMul_Not A n c a B m d b w ha hb f1 f2 hra
    · have fewA : Calls Try.prog 10 #[.slice A n c, .int .i64 12] w fun e w' => e = .returned (.int .i64 1) ∧ w' = w := by have h1 := few_says w A n c a ha 12 (by omega); rwa [if_pos f1] at h1
      have fewB' : Calls Try.prog 10 #[.slice B m d, .int .i64 12] w fun e w' => e = .returned (.int .i64 0) ∧ w' = w := by have h1 := few_says w B m d b hb 12 (by omega); rwa [if_neg f2] at h1
      clear ha hb f1 f2
      go_enter Try.func3, Try.ntmps3
      go_wp2_with (first
        | (go_at_call 10; (with_reducible refine fewA.mono ?_); rintro e wn ⟨rfl, hwn⟩; subst hwn)
        | (go_at_call 10; (with_reducible refine fewB'.mono ?_); rintro e wn ⟨rfl, hwn⟩; subst hwn))
      go_ret
      exact ⟨rfl, Below.refl _ _⟩
  · have fewA : Calls Try.prog 10 #[.slice A n c, .int .i64 12] w fun e w' => e = .returned (.int .i64 0) ∧ w' = w := by have h1 := few_says w A n c a ha 12 (by omega); rwa [if_neg f1] at h1
    clear ha hb f1
    go_enter Try.func3, Try.ntmps3
    go_wp2_with (go_at_call 10; (with_reducible refine fewA.mono ?_); rintro e wn ⟨rfl, hwn⟩; subst hwn)
    go_ret
    exact ⟨rfl, Below.refl _ _⟩
end Go.Proofs.Ytgakeecibofiiaa
