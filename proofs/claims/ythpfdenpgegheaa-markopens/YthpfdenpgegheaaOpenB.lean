/-
  An argument that is a byte.
-/
import Derived.Test.YthpfdenpgegheaaOpenMk
namespace Go.Proofs.Ythpfdenpgegheaa
open Go.RowKit

theorem byte_of {v : Value} {a : Int} (wf : (Lit.int .u8 a).wf = true) (e : v = .int .u8 a) : ∃ b : UInt8, v = .int .u8 (b.toNat : Int) := by
  obtain ⟨b, hb⟩ := u8_of wf
  exact ⟨b, by rw [e, hb]⟩
end Go.Proofs.Ythpfdenpgegheaa
