/-
  The reference's marks compared.
-/
import Derived.Test.YthpfdenpgegheaaEqMk
namespace Go.Proofs.Ythpfdenpgegheaa
open Go.RowKit

theorem equal_rk (x y : Mk) (d : Nat) (w : World) : (Op.equalIn (d + 4) 29 (.agg (mv x)) (.agg (mv y))).run Try.prog w = .ok (decide (x = y)) w := by
  rw [mk_eq_iff]
  simp only [mv]
  go_simp
  by_cases e1 : (x.kind.toNat : Int) = (y.kind.toNat : Int) <;> by_cases e2 : (x.epoch : Int) = (y.epoch : Int) <;> by_cases e3 : (x.seq : Int) = (y.seq : Int) <;> simp [e1, e2, e3]
theorem eqlRk : EqlAt Try.prog 29 (fun m : Mk => .agg (mv m)) (fun x y => decide (x = y)) :=
  ⟨fun x y w => by
    rw [run_eql_struct, show (10000 : Nat) = 9996 + 4 from rfl]
    have h := equal_rk x y 9996 w
    generalize 9996 + 4 = d at h ⊢
    rw [h]
    rfl, GuardAt.agg _ (by kernel_rfl)⟩
theorem neqRk : (∀ (x y : Mk) (w : World), (binOp .neq 29 (.agg (mv x)) (.agg (mv y))).run Try.prog w = .ok (.bool (!decide (x = y))) w) ∧ GuardAt Try.prog 29 (fun m : Mk => .agg (mv m)) :=
  ⟨fun x y w => by
    rw [run_neq_struct, show (10000 : Nat) = 9996 + 4 from rfl]
    have h := equal_rk x y 9996 w
    generalize 9996 + 4 = d at h ⊢
    rw [h]
    rfl, GuardAt.agg _ (by kernel_rfl)⟩
section
variable {ops : Array Oper} {C : World → Prop} {K : Act → Prop} {o : Oper} {rest : List Oper} {a : Act}
theorem wpQuiet_eql_rk (hw : Region.wanted o (yielded ops a.tmps) = true) (p q : Operand) (ho : o.op = .binOp .eql 29 p q 29) (x y : Mk) (r : Bool) (hr : decide (x = y) = r) (hx : a.eval p = .agg (mv x)) (hy : a.eval q = .agg (mv y))
    (h : wpQuiet Try.prog ops C K rest (a.put o.dst (.bool r))) : wpQuiet Try.prog ops C K (o :: rest) a := by
  simp only [wpQuiet, hw, if_true, Oper.quiet, Oper.quietAt]
  refine ⟨_, fun w hC => ?_, h⟩
  unfold execOp
  simp only [ho, hx, hy, Sem.run_bind, eqlRk.2 .eql p q x y w, eqlRk.1 x y w, Result.andThen_ok, Sem.run_pure, hr]
  exact ⟨rfl, rfl⟩
theorem wpQuiet_neq_rk (hw : Region.wanted o (yielded ops a.tmps) = true) (p q : Operand) (ho : o.op = .binOp .neq 29 p q 29) (x y : Mk) (r : Bool) (hr : (!decide (x = y)) = r) (hx : a.eval p = .agg (mv x)) (hy : a.eval q = .agg (mv y))
    (h : wpQuiet Try.prog ops C K rest (a.put o.dst (.bool r))) : wpQuiet Try.prog ops C K (o :: rest) a := by
  simp only [wpQuiet, hw, if_true, Oper.quiet, Oper.quietAt]
  refine ⟨_, fun w hC => ?_, h⟩
  unfold execOp
  simp only [ho, hx, hy, Sem.run_bind, neqRk.2 .neq p q x y w, neqRk.1 x y w, Result.andThen_ok, Sem.run_pure, hr]
  exact ⟨rfl, rfl⟩
end
end Go.Proofs.Ythpfdenpgegheaa
