/-
  What the rows' list of package-level variables gives the walks: the two tables lie where they were laid.
-/
import Derived.Test.YtjdepjanijambaaDoorRows
import Derived.Test.YtjdepjanijambaaDoorWords
import Derived.Lib.LaidTab
import Derived.LaidMore
import Derived.ProofKit
namespace Go.Proofs.YtjdepjanijambaaDoor
open Go.RowKit

theorem gFirst : Tryd.prog.globalNamed "saddlebag/sha.first" = some 1 := by kernel_rfl
theorem gRounds : Tryd.prog.globalNamed "saddlebag/sha.rounds" = some 0 := by kernel_rfl
theorem tFirst : (Tryd.prog.globals[1]?).map (·.type) = some 25 := by kernel_rfl
theorem tRounds : (Tryd.prog.globals[0]?).map (·.type) = some 23 := by kernel_rfl
theorem cellsWord : Tryd.prog.cellsOf 22 = 1 := by kernel_rfl
theorem cells8 : Tryd.prog.cellsOf 25 = 8 := by kernel_rfl
theorem cells64 : Tryd.prog.cellsOf 23 = 64 := by kernel_rfl

theorem tabs_of_laid {W : World} (h : laidMetH Tryd.prog [("saddlebag/sha.first", Rows.laid_saddlebag_sha_first), ("saddlebag/sha.rounds", Rows.laid_saddlebag_sha_rounds)] W) : Tabs W := by
  rw [MakeChecks.laidMetH_plain _ _ _ (by kernel_rfl)] at h
  obtain ⟨ps, ⟨g0, t0, cs0, f0, p0, q0, hg0, ht0, hv0, hd0, ⟨g1, t1, cs1, f1, p1, q1, hg1, ht1, hv1, hd1, _, _⟩, _⟩, _, _⟩ := h
  obtain rfl := Option.some.inj (gFirst.symm.trans hg0)
  obtain rfl := Option.some.inj (gRounds.symm.trans hg1)
  obtain rfl := Option.some.inj (tFirst.symm.trans ht0)
  obtain rfl := Option.some.inj (tRounds.symm.trans ht1)
  have e0 := Lib.cells_of_tab (zs := First.list.map (fun (x : Nat) => (x : Int))) (k := .u32) Tryd.underlying25 Tryd.underlying22 cellsWord cells8 hd0
  have e1 := Lib.cells_of_tab (zs := Ktab.map (fun (x : Nat) => (x : Int))) (k := .u32) Tryd.underlying23 Tryd.underlying22 cellsWord cells64 hd1
  have s0 : cs0.toList = s8s First := by rw [e0]; rfl
  have s1 : cs1.toList = u32s (fun i => Ktab.getD i 0) 64 := by rw [e1]; rfl
  refine ⟨fun j v hv => ?_, fun j v hv => ?_⟩
  · rw [← s1] at hv
    have := World.var?_cell hg1 hv1 j
    rw [Nat.zero_add, this]
    simpa using hv
  · rw [← s0] at hv
    have := World.var?_cell hg0 hv0 j
    rw [Nat.zero_add, this]
    simpa using hv
end Go.Proofs.YtjdepjanijambaaDoor
