/-
  DevPlays: the code of one step, taken out of the translation.
-/
import Derived.Test.YtemgphpgfdnkeaaPlayN
import Derived.Deep.DeepCutAuto
import Derived.Deep.CutBlock
namespace Go.Proofs.Ytemgphpgfdnkeaa
open Go.RowKit

def findBlk (k : Nat) : Code → Option Code
  | .block m c => if m = k then some (.block m c) else findBlk k c
  | .loop c => findBlk k c
  | .scope c => findBlk k c
  | .seq a b => match findBlk k a with
    | some c => some c
    | none => findBlk k b
  | .cond _ a b => match findBlk k a with
    | some c => some c
    | none => findBlk k b
  | _ => none
noncomputable def kindBlk : Code := (Try.f3.body.bind (findBlk 2)).getD .skip
theorem Jm.same {w wr : World} {p rb : Nat} {N : Nat → Prop} {D : Dv} {R : Rv} (h : Jm w wr p rb N D R) (hS : Sim D R) : ∃ (dn : Bool) (op wl : Nat) (A : Option Addr) (c : Nat), wr.cell? ⟨rb, 1, none⟩ = some (.slice A wl c) ∧ wr.cell? ⟨rb, 4, none⟩ = some (.bool dn) ∧ wr.cell? ⟨rb, 5, none⟩ = some (.int .i64 (op : Int))
    ∧ (∀ k, Calls Try.prog 21 #[.pointer (some ⟨p, 0, none⟩)] (wr.drewN k) fun e w' => e = .returned (.bool dn) ∧ w' = wr.drewN k)
    ∧ (∀ k, Calls Try.prog 22 #[.pointer (some ⟨p, 0, none⟩)] (wr.drewN k) fun e w' => e = .returned (.int .i64 (op : Int)) ∧ w' = wr.drewN k)
    ∧ (∀ k, Calls Try.prog 23 #[.pointer (some ⟨p, 0, none⟩)] (wr.drewN k) fun e w' => e = .returned (.int .i64 (wl : Int)) ∧ w' = wr.drewN k) := by
  obtain ⟨⟨A, c, q1⟩, _, q4, q5, _⟩ := h.cells
  rw [hS.at', List.length_map] at q1
  rw [hS.down] at q4
  rw [hS.ops] at q5
  exact ⟨_, _, _, A, c, q1, q4, q5, fun k => down_says (h.dev.drewN k), fun k => ops_says (h.dev.drewN k), fun k => waiting_says (h.dev.drewN k)⟩
theorem wpAnyH_weakS {P : Program} {md : Region.Mode} {ops : Array Oper} {Q : Exit → Act → World → Prop} {S S' : World → Prop} (hS : ∀ w, S' w → S w) :
    ∀ {fuel : Nat} {listed : Array Bool} {a : Act} {w : World}, wpAnyH P md ops Q S' fuel listed a w → wpAnyH P md ops Q S fuel listed a w
  | 0, _, _, _, h => h
  | _ + 1, _, _, _, h => ⟨h.1, fun i hi => wpOp_mono (fun _ w' h' => ⟨hS w' h'.1, wpAnyH_weakS hS h'.2⟩) (h.2 i hi)⟩
/-- A text out of a slice, as one step of a region whose callees leave all that lay. -/
theorem wpQuiet_conv {P : Program} {ops : Array Oper} {C : World → Prop} {K : Act → Prop} {o : Oper} {rest : List Oper} {a : Act} (hw : Region.wanted o (yielded ops a.tmps) = true) (s t : TypeId) (x : Operand) (ho : o.op = .convert s t x) (v : Value) (hx : a.eval x = v) (u : Value)
    (hc : ∀ w, C w → (convert s t v).run P w = .ok u w) (h : wpQuiet P ops C K rest (a.put o.dst u)) : wpQuiet P ops C K (o :: rest) a := by
  simp only [wpQuiet, hw, if_true, Oper.quiet, Oper.quietAt]
  refine ⟨_, fun w hC => ?_, h⟩
  unfold execOp
  simp only [ho, hx, Sem.run_bind, Result.andThen_ok, hc w hC, Sem.run_pure]
  exact ⟨rfl, rfl⟩
/-- A store of a whole row, as one step of a drawn region. -/
theorem step_store_row {P : Program} {ops : Array Oper} {Q : Exit → Act → World → Prop} {o : Oper} {a : Act} {w : World} {K : Act → World → Prop} {E : Prop} (ty : TypeId) (x y : Operand) (hgd : o.guard = none) (ho : o.op = .store ty x y)
    (g : Nat) (cells : Array Value) (hx : a.eval x = .pointer (some ⟨g, 0, none⟩)) (hy : a.eval y = .agg cells) (t : TypeId) (old : Array Value) (hg : w.heap[g]? = some (.cells old t (0, 0))) (hi : (P.info? ty).map (·.size) = some cells.size) (hold : old.size = cells.size) (h1 : cells.all (·.oneCell') = true)
    (h : K (a.put o.dst undef) (w.setRow g cells)) :
    if Region.wanted o (yielded ops a.tmps) = true then Oper.wp P o a w K Q else E := by
  have hw : Region.wanted o (yielded ops a.tmps) = true := by simp [Region.wanted, hgd]
  rw [if_pos hw]
  exact wp_store_row ty x y ho g cells hx hy t old hg hi hold h1 h
end Go.Proofs.Ytemgphpgfdnkeaa
