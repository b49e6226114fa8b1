/-
  Arguments of the laws, opened: a mark.
-/
import Derived.Test.YthpfdenpgegheaaSlA
import Derived.Test.YthpfdenpgegheaaSlK
import Derived.Test.YthpfdenpgegheaaProg
import Derived.WalkKit
import Derived.ProofKit
import Derived.OpenShut
import Derived.ShutString
import Derived.ChangeOld
namespace Go.Proofs.Ythpfdenpgegheaa
open Go.ChangeShapes Go.WideShapes Go.ChangeAt Go.RowKit

section
variable {H : Type} {enc' : TypeId × Value → H} {W : World}
theorem u8_of {n : Int} (h : (Lit.int .u8 n).wf = true) : ∃ b : UInt8, n = (b.toNat : Int) := by
  have hbd := bounds_u8 h
  exact ⟨UInt8.ofNat n.toNat, by rw [UInt8.toNat_ofNat']; omega⟩
theorem u64_of {n : Int} (h : (Lit.int .u64 n).wf = true) : ∃ k : Nat, k < 18446744073709551616 ∧ n = (k : Int) := by
  have hbd := bounds_u64 h
  exact ⟨n.toNat, by omega, by omega⟩
set_option maxRecDepth 100000 in
theorem mk_of_cells {fuel : Nat} {cs : List Value} {x : DataW H × List MemPlace} (h : DataW.trod enc' Try.prog W 0 (fun _ => true) true fuel 25 cs = some x) : ∃ y : Mk, cs = (mv y).toList := by
  have hc4 : Try.prog.cellsOf 25 = 3 := by kernel_rfl
  have hc1 : Try.prog.cellsOf 5 = 1 := by kernel_rfl
  have hc2 : Try.prog.cellsOf 23 = 1 := by kernel_rfl
  obtain ⟨xs, m, _, rfl, hl, hlen, hf⟩ := DataW.trod_struct Try.underlying25 h
  rw [hc4] at hl
  match cs, hl, xs, hlen with
  | [c0, c1, c2], _, [y0, y1, y2], _ =>
    have f0 : DataW.trod enc' Try.prog W 0 (fun _ => true) true m 5 [c0] = some y0 := by
      have := hf 0 _ rfl
      change DataW.trod enc' Try.prog W 0 (fun _ => true) true m 5 (List.take (Try.prog.cellsOf 5) (List.drop 0 [c0, c1, c2])) = _ at this
      rw [hc1] at this
      exact this
    have f1 : DataW.trod enc' Try.prog W 0 (fun _ => true) true m 23 [c1] = some y1 := by
      have := hf 1 _ rfl
      change DataW.trod enc' Try.prog W 0 (fun _ => true) true m 23 (List.take (Try.prog.cellsOf 23) (List.drop 1 [c0, c1, c2])) = _ at this
      rw [hc2] at this
      exact this
    have f2 : DataW.trod enc' Try.prog W 0 (fun _ => true) true m 23 [c2] = some y2 := by
      have := hf 2 _ rfl
      change DataW.trod enc' Try.prog W 0 (fun _ => true) true m 23 (List.take (Try.prog.cellsOf 23) (List.drop 2 [c0, c1, c2])) = _ at this
      rw [hc2] at this
      exact this
    obtain ⟨a, ha, _, haw⟩ := DataW.trod_int Try.underlying5 f0
    obtain ⟨b, hb, _, hbw⟩ := DataW.trod_int Try.underlying23 f1
    obtain ⟨d, hd, _, hdw⟩ := DataW.trod_int Try.underlying23 f2
    obtain ⟨a', rfl⟩ := u8_of haw
    obtain ⟨b', hb', rfl⟩ := u64_of hbw
    obtain ⟨d', hd', rfl⟩ := u64_of hdw
    injection ha with ha
    injection hb with hb
    injection hd with hd
    subst ha hb hd
    exact ⟨⟨a', b', d', hb', hd'⟩, rfl⟩
set_option maxRecDepth 100000 in
theorem open_mk {r : Reach} {b0 : Nat} {v : Value} {d : DataW H} {p : List MemPlace} (hval : Value.okWide Try.prog W r b0 25 v) (h : DataW.Trod enc' Try.prog W 0 (fun _ => true) true 25 v d p) : ∃ m : Mk, v = .agg (mv m) := by
  have hv : ∃ cs : Array Value, v = .agg cs := by
    simp only [Value.okWide, Try.underlying25] at hval
    obtain ⟨cs, h1, _⟩ := hval
    exact ⟨cs, h1⟩
  obtain ⟨cs, rfl⟩ := hv
  obtain ⟨fuel, hf⟩ := h
  obtain ⟨i, hi⟩ := mk_of_cells hf
  refine ⟨i, ?_⟩
  have hcs : cs.toList = (mv i).toList := by simpa [Value.cells] using hi
  rw [← Array.toArray_toList (xs := cs), hcs]
end
end Go.Proofs.Ythpfdenpgegheaa
