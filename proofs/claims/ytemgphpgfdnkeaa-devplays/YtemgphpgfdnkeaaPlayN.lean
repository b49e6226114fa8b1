/-
  Bounds of the device and the reference's side by side; the reference's Call, its answer laid by way of a new box.
-/
import Derived.Test.YtemgphpgfdnkeaaPlayA
import Derived.Test.YtemgphpgfdnkeaaKeepQ
namespace Go.Proofs.Ytemgphpgfdnkeaa
open Go.RowKit

theorem Sim.bounds {D : Dv} {R : Rv} (h : Sim D R) (ok : D.Ok) : R.kept.length = D.bs.length ∧ R.at'.length ≤ D.ops ∧ ∀ k, k < R.at'.length → R.at'.getD k 0 < R.kept.length := by
  have h1 : R.kept.length = D.bs.length := by rw [h.kept, base_length]
  refine ⟨h1, by rw [h.at', List.length_map]; exact ok.count, fun k hk => ?_⟩
  rw [h.at', List.length_map] at hk
  rw [h1, h.at']
  have e : (D.ws.map (·.n)).getD k 0 = D.ws[k].n := by simp [List.getD, hk]
  rw [e]
  exact ok.place _ (List.getElem_mem hk)
theorem refZero : (Try.prog.info? 30).map (·.size) = some 6 := by kernel_rfl
/-- The reference's box, read and laid. -/
theorem Jm.called {w wr w8 : World} {p rb : Nat} {N : Nat → Prop} {D : Dv} {R R' : Rv} (h : Jm w wr p rb N D R) (hb : Below wr.heap.size wr w8) (cs' : Array Value) (hr : RfC w8 (fun k => N k ∧ k ≠ rb) cs' R') (o : Obj) :
    Jm w (((w8.alloc o).setRow w8.heap.size cs').setRow rb cs') p rb (fun k => N k ∨ (wr.heap.size ≤ k ∧ k < ((w8.alloc o).setRow w8.heap.size cs').heap.size)) D R' := by
  have hb9 : Below w8.heap.size w8 (w8.alloc o) := (Below.refl _ w8).alloc (Nat.le_refl _) _
  have hb10 : Below w8.heap.size w8 ((w8.alloc o).setRow w8.heap.size cs') := hb9.trans ((Below.refl _ (w8.alloc o)).grown (grown_row (grown_refl _ (some w8.heap.size)) _) hb9.size (fun k e => by injection e with e; omega))
  exact h.ref (hb.trans (hb10.mono hb.size)) cs' ((hr.below hb10).weak (fun b _ h1 => .inl h1))
theorem call_bs (D : Dv) : D.call.bs = D.bs := rfl
theorem fall_bs_length (D : Dv) (keep : List Int) : (D.fall keep).bs.length = D.bs.length := by simp [Dv.fall, redo_length, undo_length]
theorem write_bs_length (D : Dv) (n : Nat) (x : Bk) : (D.write n x).bs.length = D.bs.length := by simp [Dv.write]
end Go.Proofs.Ytemgphpgfdnkeaa
