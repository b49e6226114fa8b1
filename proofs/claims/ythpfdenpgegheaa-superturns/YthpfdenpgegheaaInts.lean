/-
  Slices of whole numbers that are read.
-/
import Derived.Test.YthpfdenpgegheaaArgs
import Derived.Test.YthpfdenpgegheaaMem
namespace Go.Proofs.Ythpfdenpgegheaa
open Go.ChangeShapes Go.WideShapes Go.ChangeAt Go.RowKit

/-- Whole numbers as cells. -/
def ics (l : List Int) : List Value := l.map (Value.int .i64)
theorem ics_length (l : List Int) : (ics l).length = l.length := by simp [ics]
theorem ics_at {l : List Int} {k : Nat} {x : Int} (h : l[k]? = some x) : (ics l)[k]? = some (.int .i64 x) := by simp [ics, h]
/-- A slice of whole numbers that came in. -/
theorem open_whole {H : Type} {enc : TypeId × Value → H} {W : World} {A : Option Addr} {n c : Nat} {d : DataW H} {p : List MemPlace} (h : DataW.Trod enc Try.prog W 0 (fun _ => true) true 63 (.slice A n c) d p) : ∃ l : List Int, Lies W (fun _ => True) A n c (ics l) := by
  obtain ⟨fuel, hf⟩ := h
  rcases open_ints Try.underlying63 Try.underlying3 (by kernel_rfl) hf with ⟨hcs, _⟩ | ⟨x, l, cc, zs, hcs, _, hl, hm, hz, _, hcell, hwz⟩
  · simp [Value.cells] at hcs
    obtain ⟨rfl, rfl, rfl⟩ := hcs
    exact ⟨[], Lies.nil _ _⟩
  · simp [Value.cells] at hcs
    obtain ⟨rfl, rfl, rfl⟩ := hcs
    have hz' : zs.length = c := by simpa using hz
    refine ⟨zs.take n, ?_⟩
    refine lies_of hl (by rw [ics_length, List.length_take]; omega) (fun j u hu => ?_)
    obtain ⟨hj, rfl⟩ := map_getD (Value.int .i64) 0 _ j u hu
    rw [List.length_take] at hj
    rw [hcell j (by omega)]
    simp [List.getD, show j < n by omega]
end Go.Proofs.Ythpfdenpgegheaa
