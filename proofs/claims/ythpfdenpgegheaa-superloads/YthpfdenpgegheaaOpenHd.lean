/-
  Arguments of the laws, opened: a head.
-/
import Derived.Test.YthpfdenpgegheaaOpenMk
import Derived.Test.YthpfdenpgegheaaSlD
namespace Go.Proofs.Ythpfdenpgegheaa
open Go.ChangeShapes Go.WideShapes Go.ChangeAt Go.RowKit

section
variable {H : Type} {enc' : TypeId × Value → H} {W : World}
theorem i64_of {n : Int} (h : (Lit.int .i64 n).wf = true) : -9223372036854775808 ≤ n ∧ n ≤ 9223372036854775807 := by
  unfold Lit.wf at h
  rw [Bool.and_eq_true, decide_eq_true_eq, decide_eq_true_eq, show IntKind.i64.min = -9223372036854775808 from by decide, show IntKind.i64.max = 9223372036854775807 from by decide] at h
  exact h
set_option maxRecDepth 100000 in
theorem hd_of_cells {fuel : Nat} {cs : List Value} {x : DataW H × List MemPlace} (h : DataW.trod enc' Try.prog W 0 (fun _ => true) true fuel 43 cs = some x) : ∃ y : Hd, cs = (hv y).toList := by
  have hc4 : Try.prog.cellsOf 43 = 5 := by kernel_rfl
  have hcu : Try.prog.cellsOf 23 = 1 := by kernel_rfl
  have hci : Try.prog.cellsOf 3 = 1 := by kernel_rfl
  obtain ⟨xs, m, _, rfl, hl, hlen, hf⟩ := DataW.trod_struct Try.underlying43 h
  rw [hc4] at hl
  match cs, hl, xs, hlen with
  | [c0, c1, c2, c3, c4], _, [y0, y1, y2, y3, y4], _ =>
    have f0 : DataW.trod enc' Try.prog W 0 (fun _ => true) true m 23 [c0] = some y0 := by
      have := hf 0 _ rfl
      change DataW.trod enc' Try.prog W 0 (fun _ => true) true m 23 (List.take (Try.prog.cellsOf 23) (List.drop 0 [c0, c1, c2, c3, c4])) = _ at this
      rw [hcu] at this
      exact this
    have f1 : DataW.trod enc' Try.prog W 0 (fun _ => true) true m 23 [c1] = some y1 := by
      have := hf 1 _ rfl
      change DataW.trod enc' Try.prog W 0 (fun _ => true) true m 23 (List.take (Try.prog.cellsOf 23) (List.drop 1 [c0, c1, c2, c3, c4])) = _ at this
      rw [hcu] at this
      exact this
    have f2 : DataW.trod enc' Try.prog W 0 (fun _ => true) true m 3 [c2] = some y2 := by
      have := hf 2 _ rfl
      change DataW.trod enc' Try.prog W 0 (fun _ => true) true m 3 (List.take (Try.prog.cellsOf 3) (List.drop 2 [c0, c1, c2, c3, c4])) = _ at this
      rw [hci] at this
      exact this
    have f3 : DataW.trod enc' Try.prog W 0 (fun _ => true) true m 23 [c3] = some y3 := by
      have := hf 3 _ rfl
      change DataW.trod enc' Try.prog W 0 (fun _ => true) true m 23 (List.take (Try.prog.cellsOf 23) (List.drop 3 [c0, c1, c2, c3, c4])) = _ at this
      rw [hcu] at this
      exact this
    have f4 : DataW.trod enc' Try.prog W 0 (fun _ => true) true m 3 [c4] = some y4 := by
      have := hf 4 _ rfl
      change DataW.trod enc' Try.prog W 0 (fun _ => true) true m 3 (List.take (Try.prog.cellsOf 3) (List.drop 4 [c0, c1, c2, c3, c4])) = _ at this
      rw [hci] at this
      exact this
    obtain ⟨a0, g0, _, w0⟩ := DataW.trod_int Try.underlying23 f0
    obtain ⟨a1, g1, _, w1⟩ := DataW.trod_int Try.underlying23 f1
    obtain ⟨a2, g2, _, w2⟩ := DataW.trod_int Try.underlying3 f2
    obtain ⟨a3, g3, _, w3⟩ := DataW.trod_int Try.underlying23 f3
    obtain ⟨a4, g4, _, w4⟩ := DataW.trod_int Try.underlying3 f4
    obtain ⟨b0, hb0, rfl⟩ := u64_of w0
    obtain ⟨b1, hb1, rfl⟩ := u64_of w1
    have hb2 := i64_of w2
    obtain ⟨b3, hb3, rfl⟩ := u64_of w3
    have hb4 := i64_of w4
    injection g0 with g0
    injection g1 with g1
    injection g2 with g2
    injection g3 with g3
    injection g4 with g4
    subst g0 g1 g2 g3 g4
    exact ⟨⟨b0, b1, a2, b3, a4, hb0, hb1, hb3, hb2, hb4⟩, rfl⟩
set_option maxRecDepth 100000 in
theorem open_hd {r : Reach} {b0 : Nat} {v : Value} {d : DataW H} {p : List MemPlace} (hval : Value.okWide Try.prog W r b0 43 v) (h : DataW.Trod enc' Try.prog W 0 (fun _ => true) true 43 v d p) : ∃ m : Hd, v = .agg (hv m) := by
  have hcs' : ∃ cs : Array Value, v = .agg cs := by
    simp only [Value.okWide, Try.underlying43] at hval
    obtain ⟨cs, h1, _⟩ := hval
    exact ⟨cs, h1⟩
  obtain ⟨cs, rfl⟩ := hcs'
  obtain ⟨fuel, hf⟩ := h
  obtain ⟨i, hi⟩ := hd_of_cells hf
  refine ⟨i, ?_⟩
  have hcs : cs.toList = (hv i).toList := by simpa [Value.cells] using hi
  rw [← Array.toArray_toList (xs := cs), hcs]
end
end Go.Proofs.Ythpfdenpgegheaa
