/-
  MarkOpens: its code from a region on; what its walk knows.
-/
import Derived.Test.YthpfdenpgegheaaTornC
import Derived.Test.YthpfdenpgegheaaOwnS
import Derived.Test.YthpfdenpgegheaaEqRk
import Derived.Test.YthpfdenpgegheaaRefOpenY
namespace Go.Proofs.Ythpfdenpgegheaa
open Go.RowKit

noncomputable def opens5 : Code := (Try.f3.body.bind (tailAt 5)).getD .skip
noncomputable def opens7 : Code := (Try.f3.body.bind (tailAt 7)).getD .skip
noncomputable def opens11 : Code := (Try.f3.body.bind (tailAt 11)).getD .skip
noncomputable def opens13 : Code := (Try.f3.body.bind (tailAt 13)).getD .skip
theorem step_run_yes {P : Program} {ops : Array Oper} {Q : Exit → Act → World → Prop} {o : Oper} {a : Act} {w w' : World} {K : Act → World → Prop} {E : Prop} (d : Nat) (v : Value) (hd : o.dst = some d) (hw : Region.wanted o (yielded ops a.tmps) = true) (hrun : (execOp a.eval o).run P w = .ok (.value v) w') (h : K (a.put (some d) v) w') :
    if Region.wanted o (yielded ops a.tmps) = true then Oper.wp P o a w K Q else E := by
  rw [if_pos hw]
  unfold Oper.wp
  rw [hrun]
  rw [← hd] at h
  exact h
theorem cell_grows {w : World} {p : Addr} {v : Value} (hb : p.block < w.heap.size) (h : w.cell? p = some v) : ∀ q : Grows w, q.val.cell? p = some v := fun q => (q.prop.cell hb).trans h
end Go.Proofs.Ythpfdenpgegheaa
