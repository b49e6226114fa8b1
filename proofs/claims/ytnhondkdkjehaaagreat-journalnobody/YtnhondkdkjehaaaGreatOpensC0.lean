/-
  A cell in all worlds in which what lay lies.
-/
import Derived.Test.YtnhondkdkjehaaaGreatSlB
namespace Go.Proofs.YtnhondkdkjehaaaGreat
theorem cell_grows {w : World} {p : Addr} {v : Value} (hb : p.block < w.heap.size) (h : w.cell? p = some v) : ∀ q : Grows w, q.val.cell? p = some v := fun q => (q.prop.cell hb).trans h
end Go.Proofs.YtnhondkdkjehaaaGreat
