/-
  MarkTorn: the code of one region, taken out of the translation.
-/
import Derived.Test.YthpfdenpgegheaaSlG
namespace Go.Proofs.Ythpfdenpgegheaa
open Go.RowKit

def findReg (k : Nat) : Code → Option Code
  | .region i ops d => if i = k then some (.region i ops d) else none
  | .block _ c => findReg k c
  | .loop c => findReg k c
  | .scope c => findReg k c
  | .seq a b => match findReg k a with
    | some c => some c
    | none => findReg k b
  | .cond _ a b => match findReg k a with
    | some c => some c
    | none => findReg k b
  | _ => none
noncomputable def tornR : Code := (Try.f4.body.bind (findReg 19)).getD .skip
end Go.Proofs.Ythpfdenpgegheaa
