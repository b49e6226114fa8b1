/-
  Marks compared.
-/
import Derived.Test.YtnhondkdkjehaaaGreatSlC
import Derived.Shelf.SlicesE.Kit
namespace Go.Proofs.YtnhondkdkjehaaaGreat
open Go.RowKit

theorem cast_beq (a b : Nat) : ((a : Int) == (b : Int)) = decide (a = b) := by
  by_cases h : a = b
  · subst h
    simp
  · have : ¬ (a : Int) = (b : Int) := by omega
    simp [h, this]
theorem mk_eq_iff (x y : Mk) : decide (x = y) = (((x.kind.toNat : Int) == (y.kind.toNat : Int)) && (((x.epoch : Int) == (y.epoch : Int)) && ((x.seq : Int) == (y.seq : Int)))) := by
  rw [cast_beq, cast_beq, cast_beq, ← Bool.decide_and, ← Bool.decide_and, decide_eq_decide]
  constructor
  · rintro rfl
    exact ⟨rfl, rfl, rfl⟩
  · rintro ⟨h1, h2, h3⟩
    exact Mk.ext' (UInt8.toNat_inj.1 h1) h2 h3
theorem equal_mk (x y : Mk) (d : Nat) (w : World) : (Op.equalIn (d + 4) 126 (.agg (mv x)) (.agg (mv y))).run Tryz.prog w = .ok (decide (x = y)) w := by
  rw [mk_eq_iff]
  simp only [mv]
  go_simp
  by_cases e1 : (x.kind.toNat : Int) = (y.kind.toNat : Int) <;> by_cases e2 : (x.epoch : Int) = (y.epoch : Int) <;> by_cases e3 : (x.seq : Int) = (y.seq : Int) <;> simp [e1, e2, e3]
theorem eqlMk : EqlAt Tryz.prog 126 (fun m : Mk => .agg (mv m)) (fun x y => decide (x = y)) :=
  ⟨fun x y w => by
    rw [run_eql_struct, show (10000 : Nat) = 9996 + 4 from rfl]
    have h := equal_mk x y 9996 w
    generalize 9996 + 4 = d at h ⊢
    rw [h]
    rfl, GuardAt.agg _ (by kernel_rfl)⟩
theorem neqMk : (∀ (x y : Mk) (w : World), (binOp .neq 126 (.agg (mv x)) (.agg (mv y))).run Tryz.prog w = .ok (.bool (!decide (x = y))) w) ∧ GuardAt Tryz.prog 126 (fun m : Mk => .agg (mv m)) :=
  ⟨fun x y w => by
    rw [run_neq_struct, show (10000 : Nat) = 9996 + 4 from rfl]
    have h := equal_mk x y 9996 w
    generalize 9996 + 4 = d at h ⊢
    rw [h]
    rfl, GuardAt.agg _ (by kernel_rfl)⟩
section
variable {ops : Array Oper} {C : World → Prop} {K : Act → Prop} {o : Oper} {rest : List Oper} {a : Act}
theorem wpQuiet_eql_mk (hw : Region.wanted o (yielded ops a.tmps) = true) (p q : Operand) (ho : o.op = .binOp .eql 126 p q 126) (x y : Mk) (r : Bool) (hr : decide (x = y) = r) (hx : a.eval p = .agg (mv x)) (hy : a.eval q = .agg (mv y))
    (h : wpQuiet Tryz.prog ops C K rest (a.put o.dst (.bool r))) : wpQuiet Tryz.prog ops C K (o :: rest) a := by
  simp only [wpQuiet, hw, if_true, Oper.quiet, Oper.quietAt]
  refine ⟨_, fun w hC => ?_, h⟩
  unfold execOp
  simp only [ho, hx, hy, Sem.run_bind, eqlMk.2 .eql p q x y w, eqlMk.1 x y w, Result.andThen_ok, Sem.run_pure, hr]
  exact ⟨rfl, rfl⟩
theorem wpQuiet_neq_mk (hw : Region.wanted o (yielded ops a.tmps) = true) (p q : Operand) (ho : o.op = .binOp .neq 126 p q 126) (x y : Mk) (r : Bool) (hr : (!decide (x = y)) = r) (hx : a.eval p = .agg (mv x)) (hy : a.eval q = .agg (mv y))
    (h : wpQuiet Tryz.prog ops C K rest (a.put o.dst (.bool r))) : wpQuiet Tryz.prog ops C K (o :: rest) a := by
  simp only [wpQuiet, hw, if_true, Oper.quiet, Oper.quietAt]
  refine ⟨_, fun w hC => ?_, h⟩
  unfold execOp
  simp only [ho, hx, hy, Sem.run_bind, neqMk.2 .neq p q x y w, neqMk.1 x y w, Result.andThen_ok, Sem.run_pure, hr]
  exact ⟨rfl, rfl⟩
theorem wpList_eql_mk {Q : Exit → Act → World → Prop} {w : World} (hw : Region.wanted o (yielded ops a.tmps) = true) (p q : Operand) (ho : o.op = .binOp .eql 126 p q 126) (x y : Mk) (r : Bool) (hr : decide (x = y) = r) (hx : a.eval p = .agg (mv x)) (hy : a.eval q = .agg (mv y))
    (h : wpList Tryz.prog ops Q rest (a.put o.dst (.bool r)) w) : wpList Tryz.prog ops Q (o :: rest) a w :=
  wpList_step fun K hK => by
    simp only [hw, if_true]
    unfold Oper.wp execOp
    simp only [ho, hx, hy, Sem.run_bind, eqlMk.2 .eql p q x y w, eqlMk.1 x y w, Result.andThen_ok, Sem.run_pure, hr]
    exact hK _ _ h
theorem wpList_load_mk {Q : Exit → Act → World → Prop} {w : World} (hw : Region.wanted o (yielded ops a.tmps) = true) (x : Operand) (ho : o.op = .load 126 x) (g : Nat) (hx : a.eval x = .pointer (some ⟨g, 0, none⟩)) (m : Mk) (hg : Box w g 126 (mv m))
    (h : wpList Tryz.prog ops Q rest (a.put o.dst (.agg (mv m))) w) : wpList Tryz.prog ops Q (o :: rest) a w :=
  wpList_step fun K hK => by
    simp only [hw, if_true]
    exact wp_load_row 126 x ho g hx 126 (mv m) (0, 0) _ hg Tryz.underlying126 rfl (by rw [mv_size]; exact mkInfo) (hK _ _ h)
end
end Go.Proofs.YtnhondkdkjehaaaGreat
