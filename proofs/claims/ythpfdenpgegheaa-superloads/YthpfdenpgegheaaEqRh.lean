/-
  The reference's heads compared.
-/
import Derived.Test.YthpfdenpgegheaaSlF
namespace Go.Proofs.Ythpfdenpgegheaa
open Go.RowKit

set_option maxRecDepth 100000 in
set_option maxHeartbeats 4000000 in
theorem equal_rh (x y : Hd) (d : Nat) (w : World) : (Op.equalIn (d + 6) 50 (.agg (hv x)) (.agg (hv y))).run Try.prog w = .ok (decide (x = y)) w := by
  rw [hd_eq_iff]
  simp only [hv]
  go_simp
  by_cases e1 : (x.gen : Int) = (y.gen : Int) <;> by_cases e2 : (x.epoch : Int) = (y.epoch : Int) <;> by_cases e3 : x.pos = y.pos <;> by_cases e4 : (x.seq : Int) = (y.seq : Int) <;> by_cases e5 : x.log = y.log <;> simp [e1, e2, e3, e4, e5]
theorem eqlRh : EqlAt Try.prog 50 (fun m : Hd => .agg (hv m)) (fun x y => decide (x = y)) :=
  ⟨fun x y w => by
    rw [run_eql_struct, show (10000 : Nat) = 9994 + 6 from rfl]
    have h := equal_rh x y 9994 w
    generalize 9994 + 6 = d at h ⊢
    rw [h]
    rfl, GuardAt.agg _ (by kernel_rfl)⟩
theorem neqRh : (∀ (x y : Hd) (w : World), (binOp .neq 50 (.agg (hv x)) (.agg (hv y))).run Try.prog w = .ok (.bool (!decide (x = y))) w) ∧ GuardAt Try.prog 50 (fun m : Hd => .agg (hv m)) :=
  ⟨fun x y w => by
    rw [run_neq_struct, show (10000 : Nat) = 9994 + 6 from rfl]
    have h := equal_rh x y 9994 w
    generalize 9994 + 6 = d at h ⊢
    rw [h]
    rfl, GuardAt.agg _ (by kernel_rfl)⟩
section
variable {ops : Array Oper} {C : World → Prop} {K : Act → Prop} {o : Oper} {rest : List Oper} {a : Act}
theorem wpQuiet_eql_rh (hw : Region.wanted o (yielded ops a.tmps) = true) (p q : Operand) (ho : o.op = .binOp .eql 50 p q 50) (x y : Hd) (r : Bool) (hr : decide (x = y) = r) (hx : a.eval p = .agg (hv x)) (hy : a.eval q = .agg (hv y))
    (h : wpQuiet Try.prog ops C K rest (a.put o.dst (.bool r))) : wpQuiet Try.prog ops C K (o :: rest) a := by
  simp only [wpQuiet, hw, if_true, Oper.quiet, Oper.quietAt]
  refine ⟨_, fun w hC => ?_, h⟩
  unfold execOp
  simp only [ho, hx, hy, Sem.run_bind, eqlRh.2 .eql p q x y w, eqlRh.1 x y w, Result.andThen_ok, Sem.run_pure, hr]
  exact ⟨rfl, rfl⟩
end
end Go.Proofs.Ythpfdenpgegheaa
