/-
  Heads compared.
-/
import Derived.Test.YtnhondkdkjehaaaGreatSSm
import Derived.Shelf.SlicesE.Kit
namespace Go.Proofs.YtnhondkdkjehaaaGreat
open Go.RowKit

theorem int_beq (a b : Int) : (a == b) = decide (a = b) := by
  by_cases h : a = b <;> simp [h]
theorem hd_eq_iff (x y : Hd) : decide (x = y) = (((x.gen : Int) == (y.gen : Int)) && (((x.epoch : Int) == (y.epoch : Int)) && ((x.pos == y.pos) && (((x.seq : Int) == (y.seq : Int)) && (x.log == y.log))))) := by
  rw [cast_beq, cast_beq, int_beq, cast_beq, int_beq, ← Bool.decide_and, ← Bool.decide_and, ← Bool.decide_and, ← Bool.decide_and, decide_eq_decide]
  constructor
  · rintro rfl
    exact ⟨rfl, rfl, rfl, rfl, rfl⟩
  · rintro ⟨h1, h2, h3, h4, h5⟩
    exact Hd.ext' h1 h2 h3 h4 h5
set_option maxRecDepth 100000 in
set_option maxHeartbeats 4000000 in
theorem equal_hd (x y : Hd) (d : Nat) (w : World) : (Op.equalIn (d + 6) 78 (.agg (hv x)) (.agg (hv y))).run Tryz.prog w = .ok (decide (x = y)) w := by
  rw [hd_eq_iff]
  simp only [hv]
  go_simp
  by_cases e1 : (x.gen : Int) = (y.gen : Int) <;> by_cases e2 : (x.epoch : Int) = (y.epoch : Int) <;> by_cases e3 : x.pos = y.pos <;> by_cases e4 : (x.seq : Int) = (y.seq : Int) <;> by_cases e5 : x.log = y.log <;> simp [e1, e2, e3, e4, e5]
theorem eqlHd : EqlAt Tryz.prog 78 (fun m : Hd => .agg (hv m)) (fun x y => decide (x = y)) :=
  ⟨fun x y w => by
    rw [run_eql_struct, show (10000 : Nat) = 9994 + 6 from rfl]
    have h := equal_hd x y 9994 w
    generalize 9994 + 6 = d at h ⊢
    rw [h]
    rfl, GuardAt.agg _ (by kernel_rfl)⟩
theorem neqHd : (∀ (x y : Hd) (w : World), (binOp .neq 78 (.agg (hv x)) (.agg (hv y))).run Tryz.prog w = .ok (.bool (!decide (x = y))) w) ∧ GuardAt Tryz.prog 78 (fun m : Hd => .agg (hv m)) :=
  ⟨fun x y w => by
    rw [run_neq_struct, show (10000 : Nat) = 9994 + 6 from rfl]
    have h := equal_hd x y 9994 w
    generalize 9994 + 6 = d at h ⊢
    rw [h]
    rfl, GuardAt.agg _ (by kernel_rfl)⟩
section
variable {ops : Array Oper} {C : World → Prop} {K : Act → Prop} {o : Oper} {rest : List Oper} {a : Act}
theorem wpList_eql_hd {Q : Exit → Act → World → Prop} {w : World} (hw : Region.wanted o (yielded ops a.tmps) = true) (p q : Operand) (ho : o.op = .binOp .eql 78 p q 78) (x y : Hd) (r : Bool) (hr : decide (x = y) = r) (hx : a.eval p = .agg (hv x)) (hy : a.eval q = .agg (hv y))
    (h : wpList Tryz.prog ops Q rest (a.put o.dst (.bool r)) w) : wpList Tryz.prog ops Q (o :: rest) a w :=
  wpList_step fun K hK => by
    simp only [hw, if_true]
    unfold Oper.wp execOp
    simp only [ho, hx, hy, Sem.run_bind, eqlHd.2 .eql p q x y w, eqlHd.1 x y w, Result.andThen_ok, Sem.run_pure, hr]
    exact hK _ _ h
end
end Go.Proofs.YtnhondkdkjehaaaGreat
