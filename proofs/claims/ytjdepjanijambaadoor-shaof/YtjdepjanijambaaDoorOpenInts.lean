/-
  Arguments of the laws, opened: slices of whole numbers.
-/
import Derived.Test.YtjdepjanijambaaDoorArgs
import Derived.Test.YtjdepjanijambaaDoorOfWalk
namespace Go.Proofs.YtjdepjanijambaaDoor
open Go.ChangeShapes Go.WideShapes Go.ChangeAt Go.RowKit

section
variable {H : Type} {enc : TypeId × Value → H} {W : World} {A : Option Addr} {n c : Nat} {d : DataW H} {p : List MemPlace}
/-- A slice of whole numbers that came in. -/
theorem open_ints' (h : DataW.Trod enc Tryd.prog W 0 (fun _ => true) true 33 (.slice A n c) d p) : ∃ l : List Int, Lies W (fun _ => True) A n c (ics l) := by
  obtain ⟨fuel, hf⟩ := h
  rcases open_ints Tryd.underlying33 Tryd.underlying3 (by kernel_rfl) hf with ⟨hcs, _⟩ | ⟨x, l, cc, zs, hcs, _, hl, hm, hz, _, hcell, hwz⟩
  · simp [Value.cells] at hcs
    obtain ⟨rfl, rfl, rfl⟩ := hcs
    exact ⟨[], Lies.nil _ _⟩
  · simp [Value.cells] at hcs
    obtain ⟨rfl, rfl, rfl⟩ := hcs
    have hz' : zs.length = c := by simpa using hz
    refine ⟨zs.take n, ?_⟩
    refine lies_of hl (by rw [ics_length, List.length_take]; omega) (fun j u hu => ?_)
    obtain ⟨hj, rfl⟩ := map_getD (Value.int .i64) 0 _ j u hu
    rw [List.length_take] at hj
    rw [hcell j (by omega)]
    simp [List.getD, show j < n by omega]
end
end Go.Proofs.YtjdepjanijambaaDoor
