/-
  An argument that is a byte.
-/
import Derived.Test.YtgakeecibofiiaaRefInv
namespace Go.Proofs.Ytgakeecibofiiaa
open Go.RowKit

theorem byte_of {v : Value} {a : Int} (wf : (Lit.int .u8 a).wf = true) (e : v = .int .u8 a) : ∃ b : UInt8, v = .int .u8 (b.toNat : Int) := by
  have h : 0 ≤ a ∧ a ≤ 255 := by
    unfold Lit.wf at wf
    rw [Bool.and_eq_true, decide_eq_true_eq, decide_eq_true_eq, show IntKind.u8.min = 0 from by decide, show IntKind.u8.max = 255 from by decide] at wf
    exact wf
  refine ⟨UInt8.ofNat a.toNat, ?_⟩
  rw [e, Gf.ofNat_toNat' _ (by omega), Int.toNat_of_nonneg h.1]
theorem i64_wf {a : Int} (wf : (Lit.int .i64 a).wf = true) : -9223372036854775808 ≤ a ∧ a ≤ 9223372036854775807 := by
  unfold Lit.wf at wf
  rw [Bool.and_eq_true, decide_eq_true_eq, decide_eq_true_eq, show IntKind.i64.min = -9223372036854775808 from by decide, show IntKind.i64.max = 9223372036854775807 from by decide] at wf
  exact wf
end Go.Proofs.Ytgakeecibofiiaa
