/-
  Slices of bytes as texts.
-/
import Derived.Test.YtjnobakbjapfjaaLPutNums
import Derived.Test.YtjnobakbjapfjaaLText
namespace Go.Proofs.Ytjnobakbjapfjaa.Lay
open Go.RowKit

theorem strOf_bytes (l : List UInt8) : strOfNums (l.map fun b => (b.toNat : Int)) = ⟨l.toArray⟩ := by
  unfold strOfNums
  congr 1
  rw [List.map_map]
  congr 1
  conv => rhs; rw [← List.map_id l]
  apply List.map_congr_left
  intro b _
  simp

/-- A slice of bytes, as a text. -/
theorem conv_sl {w : World} {B : Nat} {V : Value} {l : List UInt8} (h : Sl w B V (bc l)) : (convert 34 9 V).run Try.prog w = .ok (.string ⟨l.toArray⟩) w := by
  rcases h with ⟨rfl, hl⟩ | ⟨ad, c, rfl, hc⟩
  · have : l = [] := by
      cases l with
      | nil => rfl
      | cons => simp [bc] at hl
    subst this
    exact run_convert_bytes_nil w 34 5 Try.underlying34 Try.underlying5 0 0 9 Try.underlying9
  · have hm : bc l = (l.map fun b => (b.toNat : Int)).map (Value.int .u8) := by simp [bc]
    have hld : (loadCells ad (bc l).length).run Try.prog w = .ok ((l.map fun b => (b.toNat : Int)).map (Value.int .u8)).toArray w := by
      rw [← hm]
      exact run_loadCells_list (P := Try.prog) w ad (bc l) (fun j u hu => (hc j u hu).2)
    rw [run_convert_bytes_string w 34 9 5 _ _ c Try.underlying34 Try.underlying5 Try.underlying9, run_bytesToString w _ _ c _ hld, foldl_push_bytes, ← strOf_bytes l]
    simp [strOfNums, ByteArray.empty, ByteArray.emptyWithCapacity]
    rfl

theorem sl_new (w : World) (x : Value) (t : TypeId) : Sl (w.alloc (.cells #[x] t)) (w.alloc (.cells #[x] t)).heap.size (.slice (some ⟨w.heap.size, 0, none⟩) 1 1) [x] :=
  .inr ⟨⟨w.heap.size, 0, none⟩, 1, rfl, fun j u hu => ⟨by simp, cell_one_new w x t j u hu⟩⟩

end Go.Proofs.Ytjnobakbjapfjaa.Lay
