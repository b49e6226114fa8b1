/-
  MarkTorn: its code from a region on, taken out of the translation.
-/
import Derived.Test.YthpfdenpgegheaaTornR
namespace Go.Proofs.Ythpfdenpgegheaa
open Go.RowKit

def startsReg (k : Nat) : Code → Bool
  | .region i _ _ => i == k
  | .block _ c => startsReg k c
  | .seq a _ => startsReg k a
  | _ => false
/-- The code from the region k on, at the top. -/
def tailAt (k : Nat) : Code → Option Code
  | .seq a b => if startsReg k a then some (.seq a b) else tailAt k b
  | _ => none
noncomputable def torn9 : Code := (Try.f4.body.bind (tailAt 9)).getD .skip
noncomputable def torn11 : Code := (Try.f4.body.bind (tailAt 11)).getD .skip
noncomputable def torn15 : Code := (Try.f4.body.bind (tailAt 15)).getD .skip
noncomputable def torn19 : Code := (Try.f4.body.bind (tailAt 19)).getD .skip
noncomputable def torn21 : Code := (Try.f4.body.bind (tailAt 21)).getD .skip
/-- The three arguments' boxes. -/
structure Tn (w wx : World) (m o : Mk) (a0 a1 a2 : Int) : Prop where
  bel : Below w.heap.size w wx
  one : Box wx w.heap.size 25 (mv m)
  two : Box wx (w.heap.size + 1) 25 (mv o)
  num : Box wx (w.heap.size + 2) 39 #[.int .i64 a0, .int .i64 a1, .int .i64 a2]
theorem Tn.below {w wx wy : World} {m o : Mk} {a0 a1 a2 : Int} (h : Tn w wx m o a0 a1 a2) (hb : Below wx.heap.size wx wy) : Tn w wy m o a0 a1 a2 :=
  ⟨h.bel.trans (hb.mono h.bel.size), Box.below h.one hb h.one.lt, Box.below h.two hb h.two.lt, Box.below h.num hb h.num.lt⟩
theorem Tn.grown {w wx wy : World} {m o : Mk} {a0 a1 a2 : Int} {g : Nat} (h : Tn w wx m o a0 a1 a2) (hb : wx.grownBy wy (some g)) (hg : w.heap.size + 2 < g) : Tn w wy m o a0 a1 a2 :=
  ⟨below_grown h.bel hb (by omega) h.bel.size, Box.grown h.one hb (by simp; omega), Box.grown h.two hb (by simp; omega), Box.grown h.num hb (by simp; omega)⟩
end Go.Proofs.Ythpfdenpgegheaa
