/-
  A sealed block, as a device's; what one write comes to. No statement about the program stands here.
-/
import Derived.Test.YtnhondkdkjehaaaGreatJChs
namespace Go.Proofs.YtnhondkdkjehaaaGreat
open Go.RowKit

set_option linter.unusedVariables false
set_option linter.unusedSimpArgs false
/-- A sealed block, as a device's. -/
def sealBk (m : Mk) (l : List UInt8) : Bk := bkOf (sealed m l)
theorem sealBk_val (m : Mk) (l : List UInt8) (h : l.length ≤ 220) : (sealBk m l).1 = sealed m l := bkOf_val (sealed_length m l h)
/-- What one write comes to. -/
def writeTo (D : Dv) (n : Nat) (x : Bk) : Int × Dv := if D.call.down = true then (17, D.call) else (0, D.call.write n x)
end Go.Proofs.YtnhondkdkjehaaaGreat
