/-
  DevPlays, walked: any number of blocks, any steps.
-/
import Derived.Test.YtemgphpgfdnkeaaPlaysWalk
namespace Go.Proofs.Ytemgphpgfdnkeaa
open Go.RowKit

theorem devPlays_walk (w : World) (b : Int) (Al : Option Addr) (nl cl : Nat) (xs : List Ac) (hl : Acts w Al nl cl xs) :
    Calls Try.prog 3 #[.int .i64 b, .slice Al nl cl] w fun e w' => e = .returned (.bool true) ∧ Below w.heap.size w w' := by
  by_cases h : b < 1 ∨ 4096 < b
  · exact plays_bad w b h Al nl cl
  · obtain ⟨n, rfl⟩ := Int.eq_ofNat_of_zero_le (show 0 ≤ b by omega)
    by_cases h1 : 100 < n
    · exact plays_big w n h1 (by omega) Al nl cl
    · exact plays_loop w n (by omega) (by omega) Al nl cl xs hl
end Go.Proofs.Ytemgphpgfdnkeaa
