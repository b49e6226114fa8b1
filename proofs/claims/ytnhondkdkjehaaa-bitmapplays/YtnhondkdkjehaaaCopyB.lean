/-
  'copy(dst, src)' of bytes to any place of a block that is known whole, whatever lies in it.
-/
import Derived.Test.YtnhondkdkjehaaaOwn
namespace Go.Proofs.Ytnhondkdkjehaaa
open Go.RowKit

/-- What a block reads as behind a copy of the first m of xs to place o. -/
def laidAt (cur : Array Value) (xs : List UInt8) (o m : Nat) : Array Value := (cur.toList.take o ++ bc (xs.take m) ++ cur.toList.drop (o + m)).toArray
theorem copy_gen {w : World} (ty : TypeId) (g o t t' n c : Nat) (A : Option Addr) (te : TypeId) (cur : Array Value) (hg : Box w g te cur) (N : Nat → Prop) (xs : List UInt8) (hx : Lies w N A n c (bc xs)) (hfit : o + t ≤ cur.size) :
    (Builtin.copy_ #[22, 22] ty #[.slice (some ⟨g, o, none⟩) t t', .slice A n c]).run Try.prog w = .ok (goInt ((min n t : Nat) : Int)) (w.setRow g (laidAt cur xs o (min n t))) := by
  have hxl : xs.length = n := by rw [← bc_length]; exact hx.1
  obtain ⟨m, hm⟩ : ∃ m, min n t = m := ⟨_, rfl⟩
  have hm1 : m ≤ n := by omega
  have hm2 : m ≤ t := by omega
  have hst := run_storeCells_at Try.prog g o te (bc (xs.take m)) 0 cur w hg (by rw [bc_length, List.length_take]; omega) (bc_one _)
  have hlm : (xs.take m).length = m := by rw [List.length_take]; omega
  simp only [Nat.add_zero, bc_length, hlm] at hst
  have hld : (Builtin.firstCells 1 m (.slice A n c)).run Try.prog w = .ok (bc (xs.take m)).toArray w := by
    rcases Nat.eq_zero_or_pos m with h0 | h0
    · subst h0
      cases A <;> simp [Builtin.firstCells, loadCells, loadCellsFrom, bc]
    · obtain ⟨ad, rfl, _, _, hr⟩ := hx.2.2 (by omega)
      have := run_loadCells_list (P := Try.prog) w ad (bc (xs.take m)) (fun j v hv => hr j v (by
        rw [← bc_take] at hv
        have hj := (List.getElem?_eq_some_iff.1 hv).1
        rw [List.length_take] at hj
        rwa [List.getElem?_take_of_lt (by omega)] at hv))
      rw [bc_length, hlm] at this
      simp [Builtin.firstCells, this]
  have hmin : n.min t = m := hm
  rw [hm]
  simp [Builtin.copy_, run_underlying Try.underlying22, Builtin.lenOf, Try.sizeOf5, hmin, hld, hst, laidAt]
theorem wpList_copy_gen {w : World} {ops : Array Oper} {rest : List Oper} {o : Oper} {a : Act} {Q : Exit → Act → World → Prop} (hgd : o.guard = none) (d s : Operand)
    (ho : o.op = .call { callee := .builtin .copy, args := #[d, s], argTypes := #[22, 22] })
    (g p t t' n c : Nat) (A : Option Addr) (hd : a.eval d = .slice (some ⟨g, p, none⟩) t t') (hs : a.eval s = .slice A n c)
    (te : TypeId) (cur : Array Value) (hg : Box w g te cur) (N : Nat → Prop) (xs : List UInt8) (hx : Lies w N A n c (bc xs)) (hfit : p + t ≤ cur.size)
    (h : ∀ w', Box w' g te (laidAt cur xs p (min n t)) → w.grownBy w' (some g) → wpList Try.prog ops Q rest (a.put o.dst (goInt ((min n t : Nat) : Int))) w') : wpList Try.prog ops Q (o :: rest) a w := by
  refine wpList_plain hgd fun K hK => ?_
  have hrun := copy_gen o.type g p t t' n c A te cur hg N xs hx hfit
  unfold Oper.wp
  simp [execOp, ho, resolve, invoke, builtin, hd, hs, hrun, Result.andThen]
  refine hK _ _ (h _ ?_ ?_)
  · exact setRow_heap w g _ _ te _ hg
  · exact grown_row (grown_refl w _) _
/-- The same, where the operation is one of a region that draws its order. -/
theorem wp_copy_gen {w : World} {o : Oper} {a : Act} {K : Act → World → Prop} {Q : Exit → Act → World → Prop} (d s : Operand)
    (ho : o.op = .call { callee := .builtin .copy, args := #[d, s], argTypes := #[22, 22] })
    (g p t t' n c : Nat) (A : Option Addr) (hd : a.eval d = .slice (some ⟨g, p, none⟩) t t') (hs : a.eval s = .slice A n c)
    (te : TypeId) (cur : Array Value) (hg : Box w g te cur) (N : Nat → Prop) (xs : List UInt8) (hx : Lies w N A n c (bc xs)) (hfit : p + t ≤ cur.size)
    (h : ∀ w', Box w' g te (laidAt cur xs p (min n t)) → w.grownBy w' (some g) → K (a.put o.dst (goInt ((min n t : Nat) : Int))) w') : o.wp Try.prog a w K Q := by
  have hrun := copy_gen o.type g p t t' n c A te cur hg N xs hx hfit
  unfold Oper.wp
  simp [execOp, ho, resolve, invoke, builtin, hd, hs, hrun, Result.andThen]
  refine h _ ?_ ?_
  · exact setRow_heap w g _ _ te _ hg
  · exact grown_row (grown_refl w _) _
theorem exec_copy {w : World} {o : Oper} {a : Act} (d s : Operand)
    (ho : o.op = .call { callee := .builtin .copy, args := #[d, s], argTypes := #[22, 22] })
    (g p t t' n c : Nat) (A : Option Addr) (hd : a.eval d = .slice (some ⟨g, p, none⟩) t t') (hs : a.eval s = .slice A n c)
    (te : TypeId) (cur : Array Value) (hg : Box w g te cur) (N : Nat → Prop) (xs : List UInt8) (hx : Lies w N A n c (bc xs)) (hfit : p + t ≤ cur.size) :
    (execOp a.eval o).run Try.prog w = .ok (.value (goInt ((min n t : Nat) : Int))) (w.setRow g (laidAt cur xs p (min n t))) := by
  have hrun := copy_gen o.type g p t t' n c A te cur hg N xs hx hfit
  simp [execOp, ho, resolve, invoke, builtin, hd, hs, hrun, Result.andThen]
end Go.Proofs.Ytnhondkdkjehaaa
