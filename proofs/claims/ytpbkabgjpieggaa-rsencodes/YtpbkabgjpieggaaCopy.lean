/-
  'copy(dst, src)' of bytes, where either may be the longer, at any place of a block of the call's own.
-/
import Derived.Test.YtpbkabgjpieggaaCod
namespace Go.Proofs.Ytpbkabgjpieggaa
open Go.RowKit

/-- What a row reads as behind a copy of the first ones of xs to place o. -/
def patched (l xs : List UInt8) (o m : Nat) : List UInt8 := l.take o ++ xs.take m ++ l.drop (o + m)
theorem patched_length {l xs : List UInt8} {o m : Nat} (h1 : o + m ≤ l.length) (h2 : m ≤ xs.length) : (patched l xs o m).length = l.length := by
  simp [patched]; omega
theorem copy_run {w : World} (ty : TypeId) (g o t t' n c : Nat) (A : Option Addr) (l : List UInt8) (hg : Box w g 5 (bc l).toArray) (N : Nat → Prop) (xs : List UInt8) (hx : Lies w N A n c (bc xs)) (hfit : o + t ≤ l.length) :
    (Builtin.copy_ #[31, 31] ty #[.slice (some ⟨g, o, none⟩) t t', .slice A n c]).run Try.prog w = .ok (goInt ((min n t : Nat) : Int)) (w.setRow g (bc (patched l xs o (min n t))).toArray) := by
  have hxl : xs.length = n := by rw [← bc_length]; exact hx.1
  obtain ⟨m, hm⟩ : ∃ m, min n t = m := ⟨_, rfl⟩
  have hm1 : m ≤ n := by omega
  have hm2 : m ≤ t := by omega
  have hst := run_storeCells_at Try.prog g o 5 (bc (xs.take m)) 0 (bc l).toArray w hg (by rw [bc_length, List.length_take]; simp [bc_length]; omega) (bc_one _)
  have hlm : (xs.take m).length = m := by rw [List.length_take]; omega
  simp only [Nat.add_zero, bc_length, hlm, bc_take, bc_drop, ← bc_append] at hst
  have hld : (Builtin.firstCells 1 m (.slice A n c)).run Try.prog w = .ok (bc (xs.take m)).toArray w := by
    rcases Nat.eq_zero_or_pos m with h0 | h0
    · subst h0
      cases A <;> simp [Builtin.firstCells, loadCells, loadCellsFrom, bc]
    · obtain ⟨ad, rfl, _, _, hr⟩ := hx.2.2 (by omega)
      have := run_loadCells_list (P := Try.prog) w ad (bc (xs.take m)) (fun j v hv => hr j v (by
        rw [← bc_take] at hv
        have hj := (List.getElem?_eq_some_iff.1 hv).1
        rw [List.length_take] at hj
        rwa [List.getElem?_take_of_lt (by omega)] at hv))
      rw [bc_length, hlm] at this
      simp [Builtin.firstCells, this]
  have hmin : n.min t = m := hm
  rw [hm]
  simp [Builtin.copy_, run_underlying Try.underlying31, Builtin.lenOf, Try.sizeOf5, hmin, hld, hst, patched]
theorem wpList_copy_any {w : World} {ops : Array Oper} {rest : List Oper} {o : Oper} {a : Act} {Q : Exit → Act → World → Prop} (hgd : o.guard = none) (d s : Operand)
    (ho : o.op = .call { callee := .builtin .copy, args := #[d, s], argTypes := #[31, 31] })
    (g p t t' n c : Nat) (A : Option Addr) (hd : a.eval d = .slice (some ⟨g, p, none⟩) t t') (hs : a.eval s = .slice A n c)
    (l : List UInt8) (hg : Box w g 5 (bc l).toArray) (N : Nat → Prop) (xs : List UInt8) (hx : Lies w N A n c (bc xs)) (hfit : p + t ≤ l.length)
    (h : ∀ w', Box w' g 5 (bc (patched l xs p (min n t))).toArray → w.grownBy w' (some g) → wpList Try.prog ops Q rest (a.put o.dst (goInt ((min n t : Nat) : Int))) w') : wpList Try.prog ops Q (o :: rest) a w := by
  refine wpList_plain hgd fun K hK => ?_
  have hrun := copy_run o.type g p t t' n c A l hg N xs hx hfit
  unfold Oper.wp
  simp [execOp, ho, resolve, invoke, builtin, hd, hs, hrun, Result.andThen]
  refine hK _ _ (h _ ?_ ?_)
  · exact setRow_heap w g _ _ 5 _ hg
  · exact grown_row (grown_refl w _) _
/-- The same, where the operation is one of a region that draws its order. -/
theorem wp_copy_any {w : World} {o : Oper} {a : Act} {K : Act → World → Prop} {Q : Exit → Act → World → Prop} (d s : Operand)
    (ho : o.op = .call { callee := .builtin .copy, args := #[d, s], argTypes := #[31, 31] })
    (g p t t' n c : Nat) (A : Option Addr) (hd : a.eval d = .slice (some ⟨g, p, none⟩) t t') (hs : a.eval s = .slice A n c)
    (l : List UInt8) (hg : Box w g 5 (bc l).toArray) (N : Nat → Prop) (xs : List UInt8) (hx : Lies w N A n c (bc xs)) (hfit : p + t ≤ l.length)
    (h : ∀ w', Box w' g 5 (bc (patched l xs p (min n t))).toArray → w.grownBy w' (some g) → K (a.put o.dst (goInt ((min n t : Nat) : Int))) w') : o.wp Try.prog a w K Q := by
  have hrun := copy_run o.type g p t t' n c A l hg N xs hx hfit
  unfold Oper.wp
  simp [execOp, ho, resolve, invoke, builtin, hd, hs, hrun, Result.andThen]
  refine h _ ?_ ?_
  · exact setRow_heap w g _ _ 5 _ hg
  · exact grown_row (grown_refl w _) _
end Go.Proofs.Ytpbkabgjpieggaa
