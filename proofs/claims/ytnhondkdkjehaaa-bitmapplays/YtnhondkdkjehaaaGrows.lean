/-
  A region that draws its order, whose operations only read, and whose callees leave all that lay as it was: walked once, in the text's order.
-/
import Derived.Test.YtnhondkdkjehaaaHeld
import Derived.Deep.QuietTactic
import Derived.Sort.Grow
namespace Go.Proofs.Ytnhondkdkjehaaa
open Go.RowKit

/-- A world in which all that lay in w lies as it did. -/
structure Grows (w : World) where
  val : World
  prop : Below w.heap.size w val
instance (w : World) : Inhabited (Grows w) := ⟨⟨w, Below.refl _ _⟩⟩

section
variable {P : Program} {ops : Array Oper} {Q : Exit → Act → World → Prop}
theorem wp_region_grows {id : Nat} {a : Act} {w : World} {l : List Oper} (hm : P.follows .mixedOrders = true) (hB : Region.lexB .any l.toArray = true)
    (h : wpQuiet P l.toArray (fun w' => ∃ p : Grows w, w' = p.val) (fun a' => ∀ w', (∃ p : Grows w, w' = p.val) → Q .normal a' w') l a) : (Code.region id l.toArray true).wp P Q a w :=
  wp_region_quiet (C := fun w' => ∃ p : Grows w, w' = p.val) hm hB ⟨⟨w.drew, (Below.refl _ w).drew⟩, rfl⟩ (by simpa using h)
/-- A load of many cells. -/
theorem wpQuiet_load {C : World → Prop} {K : Act → Prop} {o : Oper} {rest : List Oper} {a : Act} (hgd : o.guard = none) (ty : TypeId) (x : Operand) (ho : o.op = .load ty x) (b off : Nat) (hx : a.eval x = .pointer (some ⟨b, off, none⟩)) (cs : List Value) (ds : TypeDesc)
    (hc : ∀ w, C w → w.rangeAt b off cs) (hu : P.underlying ty = some ds) (hrow : ds.isRow = true) (hsz : (P.info? ty).map (·.size) = some cs.length) (h : wpQuiet P ops C K rest (a.put o.dst (.agg cs.toArray))) : wpQuiet P ops C K (o :: rest) a := by
  have hw : Region.wanted o (yielded ops a.tmps) = true := by simp [Region.wanted, hgd]
  simp only [wpQuiet, hw, if_true, Oper.quiet, Oper.quietAt]
  refine ⟨_, fun w hC => ?_, h⟩
  unfold execOp
  simp only [ho, hx, Sem.run_bind, Result.andThen_ok, run_loadAt_mid w b off ty cs ds (hc w hC) hu hrow hsz, Sem.run_pure]
  exact ⟨rfl, rfl⟩
/-- The same where a guard says yes. -/
theorem wpQuiet_load_yes {C : World → Prop} {K : Act → Prop} {o : Oper} {rest : List Oper} {a : Act} (hw : Region.wanted o (yielded ops a.tmps) = true) (ty : TypeId) (x : Operand) (ho : o.op = .load ty x) (b off : Nat) (hx : a.eval x = .pointer (some ⟨b, off, none⟩)) (cs : List Value) (ds : TypeDesc)
    (hc : ∀ w, C w → w.rangeAt b off cs) (hu : P.underlying ty = some ds) (hrow : ds.isRow = true) (hsz : (P.info? ty).map (·.size) = some cs.length) (h : wpQuiet P ops C K rest (a.put o.dst (.agg cs.toArray))) : wpQuiet P ops C K (o :: rest) a := by
  simp only [wpQuiet, hw, if_true, Oper.quiet, Oper.quietAt]
  refine ⟨_, fun w hC => ?_, h⟩
  unfold execOp
  simp only [ho, hx, Sem.run_bind, Result.andThen_ok, run_loadAt_mid w b off ty cs ds (hc w hC) hu hrow hsz, Sem.run_pure]
  exact ⟨rfl, rfl⟩
/-- An operation whose guard says no. -/
theorem wpQuiet_no {C : World → Prop} {K : Act → Prop} {o : Oper} {rest : List Oper} {a : Act} (hw : Region.wanted o (yielded ops a.tmps) = false) (h : wpQuiet P ops C K rest (a.put o.dst undef)) : wpQuiet P ops C K (o :: rest) a := by
  simp only [wpQuiet, hw]
  exact h
theorem Calls.grows {f : FuncId} {args : Array Value} {w : World} {p : Grows w} {v : Value} (h : Calls P f args p.val fun e w' => e = .returned v ∧ Below p.val.heap.size p.val w') :
    Calls P f args p.val fun e w'' => e = .returned v ∧ ∃ p' : Grows w, w'' = p'.val :=
  h.mono fun _ w' hh => ⟨hh.1, ⟨w', p.prop.trans (hh.2.mono p.prop.size)⟩, rfl⟩
theorem range_grows {w : World} {b off : Nat} {cs : List Value} (h : w.rangeAt b off cs) (hb : b < w.heap.size) : ∀ w', (∃ p : Grows w, w' = p.val) → w'.rangeAt b off cs := by
  rintro _ ⟨p, rfl⟩ j v hv
  exact (p.prop.cell (p := ⟨b, off + j, none⟩) hb).trans (h j v hv)
end
theorem below_grow (w : World) (q : Nat) (os : Array Obj) : Below w.heap.size w (Sort.grow (w.drewN q) os) :=
  ⟨rfl, rfl, rfl, by simp [Sort.grow, World.drewN], fun k hk => by
    rw [Sort.heap_grow_old (w.drewN q) os hk]
    rfl⟩
end Go.Proofs.Ytnhondkdkjehaaa
