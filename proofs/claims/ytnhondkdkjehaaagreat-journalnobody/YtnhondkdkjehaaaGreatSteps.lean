/-
  Steps of a drawn region whose operation is the only one ready; a held fact made stronger.
-/
import Derived.Test.YtnhondkdkjehaaaGreatSlB
namespace Go.Proofs.YtnhondkdkjehaaaGreat

section
variable {P : Program} {ops : Array Oper} {Q : Exit → Act → World → Prop}
/-- An operation that yields a value, as one step of a drawn region. -/
theorem step_run {o : Oper} {a : Act} {w w' : World} {K : Act → World → Prop} {E : Prop} (d : Nat) (v : Value) (hd : o.dst = some d) (hgd : o.guard = none) (hrun : (execOp a.eval o).run P w = .ok (.value v) w') (h : K (a.put (some d) v) w') :
    if Region.wanted o (yielded ops a.tmps) = true then Oper.wp P o a w K Q else E := by
  have hw : Region.wanted o (yielded ops a.tmps) = true := by simp [Region.wanted, hgd]
  rw [if_pos hw]
  unfold Oper.wp
  rw [hrun]
  rw [← hd] at h
  exact h
end
theorem wpAnyH_weakS {P : Program} {md : Region.Mode} {ops : Array Oper} {Q : Exit → Act → World → Prop} {S S' : World → Prop} (hS : ∀ w, S' w → S w) :
    ∀ {fuel : Nat} {listed : Array Bool} {a : Act} {w : World}, wpAnyH P md ops Q S' fuel listed a w → wpAnyH P md ops Q S fuel listed a w
  | 0, _, _, _, h => h
  | _ + 1, _, _, _, h => ⟨h.1, fun i hi => wpOp_mono (fun _ w' h' => ⟨hS w' h'.1, wpAnyH_weakS hS h'.2⟩) (h.2 i hi)⟩
end Go.Proofs.YtnhondkdkjehaaaGreat
