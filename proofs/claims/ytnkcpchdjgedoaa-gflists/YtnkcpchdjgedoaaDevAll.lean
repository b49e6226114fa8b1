/-
  All that is asked of package gf, given what its functions of one or two numbers tell.
-/
import Derived.Test.YtnkcpchdjgedoaaGfC
import Derived.Test.YtnkcpchdjgedoaaDevLists
import Derived.Test.YtnkcpchdjgedoaaDevMake
import Derived.Test.YtnkcpchdjgedoaaDevSum
import Derived.Test.YtnkcpchdjgedoaaDevNums
namespace Go.Proofs.Ytnkcpchdjgedoaa
open Go.RowKit

/-- What the functions of one or two numbers tell. -/
structure GfOne : Prop where
  new : ∀ w, Calls Try.prog 8 #[] w fun e w' => ∃ P, e = .returned (.pointer P) ∧ Below w.heap.size w w'
  base : GfB
  inv : ∀ (P : Option Addr) (a : UInt8) (w : World), Calls Try.prog 14 #[.pointer P, .int .u8 (a.toNat : Int)] w fun e w' => e = .returned (.int .u8 ((Gf.inv a).toNat : Int)) ∧ Below w.heap.size w w'
  exp : ∀ (P : Option Addr) (n : Int), -9223372036854775808 ≤ n ∧ n ≤ 9223372036854775807 → ∀ w : World, Calls Try.prog 20 #[.pointer P, .int .i64 n] w fun e w' => e = .returned (.int .u8 ((powL 2 n).toNat : Int)) ∧ Below w.heap.size w w'
  log : ∀ (P : Option Addr) (a : UInt8) (w : World), Calls Try.prog 15 #[.pointer P, .int .u8 (a.toNat : Int)] w fun e w' => e = .returned (.int .i64 (logL a)) ∧ Below w.heap.size w w'
  power : ∀ (P : Option Addr) (a : UInt8) (n : Int), -9223372036854775808 ≤ n ∧ n ≤ 9223372036854775807 → ∀ w : World, Calls Try.prog 18 #[.pointer P, .int .u8 (a.toNat : Int), .int .i64 n] w fun e w' => e = .returned (.int .u8 ((powL a n).toNat : Int)) ∧ Below w.heap.size w w'

theorem GfOne.all (O : GfOne) : GfC where
  new := O.new
  add := O.base.add
  mul := O.base.mul
  div := O.base.div
  inv := O.inv
  exp := O.exp
  log := O.log
  power := O.power
  eval := fun P A n c p x w h hn => eval_of O.base P A n c p x w h hn
  dot := fun P A n c a B m d b w h h2 hn hm => dot_of O.base P A n c a B m d b w h h2 hn hm
  sum := fun P A n c a B m d b w h h2 hn hm => sum_of O.base P A n c a B m d b w h h2 hn hm
  scale := fun P A n c a x w h hn => scale_of O.base P A n c a x w h hn

/-- The code as it landed. -/
theorem gfOne : GfOne where
  new := new_says
  base := ⟨fun P a b w => (add_says P a b w).mono fun _ _ h => ⟨h.1, Below.of_eq h.2⟩, fun P a b w => (mul_says P a b w).mono fun _ _ h => ⟨h.1, Below.of_eq h.2⟩, fun P a b w => (div_says P a b w).mono fun _ _ h => ⟨h.1, Below.of_eq h.2⟩⟩
  inv := fun P a w => (inv_says P a w).mono fun _ _ h => ⟨h.1, Below.of_eq h.2⟩
  exp := fun P n _ w => (exp_says P n w).mono fun _ _ h => ⟨h.1, Below.of_eq h.2⟩
  log := fun P a w => (log_says P a w).mono fun _ _ h => ⟨h.1, Below.of_eq h.2⟩
  power := fun P a n _ w => (power_says P a n w).mono fun _ _ h => ⟨h.1, Below.of_eq h.2⟩
theorem gfC : GfC := gfOne.all
end Go.Proofs.Ytnkcpchdjgedoaa
