/-
  MatMul walked: what all its ways have in common.
-/
import Derived.Test.YtgakeecibofiiaaLawOne
import Derived.Test.YtgakeecibofiiaaMatL
import Derived.Test.YtgakeecibofiiaaRefRank
import Derived.Test.YtgakeecibofiiaaTurnsWalk
namespace Go.Proofs.Ytgakeecibofiiaa
open Go.RowKit Go.Shelf

/-- What stands at a place that is old enough. -/
def CellAt (w : World) (b o : Nat) (v : Value) : Prop := w.cell? ⟨b, o, none⟩ = some v ∧ b < w.heap.size
theorem CellAt.below {w w' : World} {b o : Nat} {v : Value} (h : CellAt w b o v) (hb : Below w.heap.size w w') : CellAt w' b o v := ⟨(hb.cell (p := ⟨b, o, none⟩) h.2).trans h.1, Nat.lt_of_lt_of_le h.2 hb.size⟩
theorem CellAt.out1 {w : World} {b o : Nat} {v : Value} (h : CellAt w b o v) : w.cell? ⟨b, o, none⟩ = some v := h.1
/-- The first rows are as long as the first one. -/
def evenTo (b : List (List UInt8)) (k : Nat) : Bool := (b.take k).all (fun r => r.length == (b.headD []).length)
theorem even_succ {b : List (List UInt8)} {k : Nat} {r : List UInt8} (h : b[k]? = some r) : evenTo b (k + 1) = (evenTo b k && (r.length == (b.headD []).length)) := by
  unfold evenTo
  rw [List.take_add_one, h]
  simp
theorem even_all (b : List (List UInt8)) {k : Nat} (h : b.length ≤ k) : evenTo b k = levelB b := by
  unfold evenTo levelB
  rw [List.take_of_length_le h]
end Go.Proofs.Ytgakeecibofiiaa
