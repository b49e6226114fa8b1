/-
  Texts of blocks: their first bytes, the rest, and both together.
-/
import Derived.Test.YtemgphpgfdnkeaaRefFlush
import Derived.Test.YtemgphpgfdnkeaaStr
namespace Go.Proofs.Ytemgphpgfdnkeaa
open Go.RowKit

theorem str_size' (f : List UInt8) : (⟨f.toArray⟩ : ByteArray).size = f.length := by simp [ByteArray.size]
theorem sliceS_first (f : List UInt8) (N : Nat) (h : N ≤ f.length) (w : World) : (Instr.sliceAt 9 (.string ⟨f.toArray⟩) none (some (.int .i64 (N : Int))) none).run Try.prog w = .ok (.string ⟨(f.take N).toArray⟩) w := by
  have hz := str_size' f
  have he : (⟨f.toArray⟩ : ByteArray).extract 0 N = ⟨(f.take N).toArray⟩ := by
    rw [← string_eq (ByteArray.extract _ _ _), Lib.extract_data]
    congr 2
  rw [run_sliceAt_string w 9 _ _ _ _ Try.underlying9, run_slice_string_h w 9 _ Try.underlying9 .i64 (N : Int) (by omega) (by rw [hz]; omega), Int.toNat_natCast, he]
theorem sliceS_rest (f : List UInt8) (N : Nat) (h : N ≤ f.length) (w : World) : (Instr.sliceAt 9 (.string ⟨f.toArray⟩) (some (.int .i64 (N : Int))) none none).run Try.prog w = .ok (.string ⟨(f.drop N).toArray⟩) w := by
  have hz := str_size' f
  have he : (⟨f.toArray⟩ : ByteArray).extract N f.length = ⟨(f.drop N).toArray⟩ := by
    rw [← string_eq (ByteArray.extract _ _ _), Lib.extract_data]
    congr 2
    exact List.take_of_length_le (by simp)
  rw [run_sliceAt_string w 9 _ _ _ _ Try.underlying9, run_slice_string_l w 9 _ Try.underlying9 .i64 (N : Int) (by omega) (by rw [hz]; omega), Int.toNat_natCast, hz, he]
theorem catS (a b : List UInt8) : (⟨a.toArray⟩ : ByteArray) ++ (⟨b.toArray⟩ : ByteArray) = ⟨(a ++ b).toArray⟩ := by
  apply ByteArray.ext
  simp
end Go.Proofs.Ytemgphpgfdnkeaa
