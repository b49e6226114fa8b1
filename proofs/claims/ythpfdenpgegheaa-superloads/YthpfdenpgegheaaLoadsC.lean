/-
  SuperLoads, in parts: what its walk knows.
-/
import Derived.Test.YthpfdenpgegheaaLoadsR
import Derived.Test.YthpfdenpgegheaaEqRh
import Derived.BigQuiet
import Derived.Deep.DeepCutAuto
import Derived.Deep.CutBlock
namespace Go.Proofs.Ythpfdenpgegheaa
open Go.RowKit

set_option linter.unusedVariables false
set_option linter.unusedSimpArgs false
noncomputable def loads5 : Code := (Try.f5.body.bind (tailAt 5)).getD .skip
noncomputable def loads8 : Code := (Try.f5.body.bind (tailAt 8)).getD .skip
noncomputable def loads11 : Code := (Try.f5.body.bind (tailAt 11)).getD .skip
noncomputable def loads15 : Code := (Try.f5.body.bind (tailAt 15)).getD .skip
noncomputable def loads17 : Code := (Try.f5.body.bind (tailAt 17)).getD .skip
noncomputable def loads24 : Code := (Try.f5.body.bind (tailAt 24)).getD .skip
/-- The device, and the texts of its first two blocks. -/
structure LI (w : World) (p b5 gx : Nat) (h : Hd) (D : Dv) (s0 s1 : ByteArray) (wr : World) : Prop where
  below : Below w.heap.size w wr
  dev : Dev wr (fun k => (w.heap.size ≤ k ∧ k ≠ b5) ∧ k ≠ gx) p D
  box : Box wr b5 43 (hv h)
  tab : Box wr gx 47 #[.string s0, .string s1]
  e0 : (⟨(D.blk 0).1.toArray⟩ : ByteArray) = s0
  e1 : (⟨(D.blk 1).1.toArray⟩ : ByteArray) = s1
  len : D.bs.length = 12
  up : D.down = false
  left : D.left = -1
  ops : D.ops ≤ 10
  b5w : w.heap.size ≤ b5
  gxw : w.heap.size ≤ gx
  ne : b5 ≠ gx
theorem LI.on {w : World} {p b5 gx : Nat} {h : Hd} {D : Dv} {s0 s1 : ByteArray} {wr wx : World} (hI : LI w p b5 gx h D s0 s1 wr) (hb : Below wr.heap.size wr wx) : LI w p b5 gx h D s0 s1 wx :=
  ⟨hI.below.trans (hb.mono hI.below.size), hI.dev.below hb, Box.below hI.box hb hI.box.lt, Box.below hI.tab hb hI.tab.lt, hI.e0, hI.e1, hI.len, hI.up, hI.left, hI.ops, hI.b5w, hI.gxw, hI.ne⟩
theorem lastN_zero (D : Dv) : ∀ k, lastN D k = Hd.zero ∨ 1 ≤ (lastN D k).gen
  | 0 => .inl rfl
  | k + 1 => by
    show pickH _ _ _ = _ ∨ 1 ≤ (pickH _ _ _).gen
    cases headOf (D.blk k).1 (D.bs.length : Int) with
    | none => exact lastN_zero D k
    | some h =>
      show (if _ then h else _) = _ ∨ 1 ≤ (if _ then h else _ : Hd).gen
      split
      · rename_i q
        exact .inr (by omega)
      · exact lastN_zero D k
end Go.Proofs.Ythpfdenpgegheaa
