/-
  Arguments of the laws, opened: three whole numbers.
-/
import Derived.Test.YthpfdenpgegheaaOpenMk
namespace Go.Proofs.Ythpfdenpgegheaa
open Go.ChangeShapes Go.WideShapes Go.ChangeAt Go.RowKit

section
variable {H : Type} {enc' : TypeId × Value → H} {W : World}
theorem three_of_cells {fuel : Nat} {cs : List Value} {x : DataW H × List MemPlace} (h : DataW.trod enc' Try.prog W 0 (fun _ => true) true fuel 39 cs = some x) : ∃ a b d : Int, cs = [.int .i64 a, .int .i64 b, .int .i64 d] := by
  have hc1 : Try.prog.cellsOf 3 = 1 := by kernel_rfl
  have hc2 : Try.prog.cellsOf 39 = 3 := by kernel_rfl
  obtain ⟨xs, m, _, _, hl, hn, hx⟩ := DataW.trod_array Try.underlying39 h
  rw [hc1] at hx
  rw [hc2] at hl
  have hb : ∀ i, i < cs.length → ∃ b : Int, cs[i]? = some (.int .i64 b) := fun i hi => by
    have h1 := hx i (by omega)
    rw [List.getElem?_eq_getElem (by omega)] at h1
    obtain ⟨n, hn, _, hw⟩ := DataW.trod_int Try.underlying3 h1
    refine ⟨n, ?_⟩
    rw [Nat.mul_one, List.drop_eq_getElem_cons hi, List.take_succ_cons] at hn
    have hn' := (List.cons.inj hn).1
    rw [List.getElem?_eq_getElem hi, hn']
  obtain ⟨a, ha⟩ := hb 0 (by omega)
  obtain ⟨b, hb'⟩ := hb 1 (by omega)
  obtain ⟨d, hd⟩ := hb 2 (by omega)
  match cs, hl, ha, hb', hd with
  | [c0, c1, c2], _, ha, hb', hd =>
    simp at ha hb' hd
    exact ⟨a, b, d, by rw [ha, hb', hd]⟩
set_option maxRecDepth 100000 in
theorem open_three {r : Reach} {b0 : Nat} {v : Value} {d : DataW H} {p : List MemPlace} (hval : Value.okWide Try.prog W r b0 39 v) (h : DataW.Trod enc' Try.prog W 0 (fun _ => true) true 39 v d p) : ∃ a : Int × Int × Int, v = .agg #[.int .i64 a.1, .int .i64 a.2.1, .int .i64 a.2.2] := by
  have hv : ∃ cs : Array Value, v = .agg cs := by
    simp only [Value.okWide, Try.underlying39] at hval
    obtain ⟨cs, h1, _⟩ := hval
    exact ⟨cs, h1⟩
  obtain ⟨cs, rfl⟩ := hv
  obtain ⟨fuel, hf⟩ := h
  obtain ⟨a, b, d, hi⟩ := three_of_cells hf
  refine ⟨⟨a, b, d⟩, ?_⟩
  have hcs : cs.toList = [.int .i64 a, .int .i64 b, .int .i64 d] := by simpa [Value.cells] using hi
  rw [← Array.toArray_toList (xs := cs), hcs]
end
end Go.Proofs.Ythpfdenpgegheaa
