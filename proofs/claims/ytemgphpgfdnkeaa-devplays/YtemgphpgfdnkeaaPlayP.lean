/-
  The device and the reference's, side by side, in plain words.
-/
import Derived.Test.YtemgphpgfdnkeaaRefFall
import Derived.Test.YtemgphpgfdnkeaaRefNew
namespace Go.Proofs.Ytemgphpgfdnkeaa
open Go.RowKit

theorem flTo_fold (base : List Bk) (ws : List Wr) : ∀ k, k ≤ ws.length → flTo base (ws.map (·.n)) (ws.map (·.is)) k = (ws.take k).foldl (fun bs x => bs.set x.n x.is) base
  | 0, _ => rfl
  | k + 1, h => by
    have hk : k < ws.length := by omega
    have h2 : (ws.map (·.n)).getD k 0 = ws[k].n := by simp [List.getD, hk]
    have h3 : (ws.map (·.is)).getD k default = ws[k].is := by simp [List.getD, hk]
    rw [flTo, flTo_fold base ws k (by omega), List.take_add_one, List.getElem?_eq_getElem hk, h2, h3]
    rw [Option.toList_some, List.foldl_append]
    rfl
theorem rdTo_redo (keep : List Int) (base : List Bk) (ws : List Wr) : ∀ k, k ≤ ws.length → rdTo keep base (ws.map (·.n)) (ws.map (·.is)) k = redo keep base ws k
  | 0, _ => rfl
  | k + 1, h => by
    have hk : k < ws.length := by omega
    have h1 : ws.getD k default = ws[k] := by simp [List.getD, hk]
    have h2 : (ws.map (·.n)).getD k 0 = ws[k].n := by simp [List.getD, hk]
    have h3 : (ws.map (·.is)).getD k default = ws[k].is := by simp [List.getD, hk]
    rw [rdTo, redo, rdTo_redo keep base ws k (by omega), h1, h2, h3]
theorem nowTo_fl (kept : List Bk) (l2 : List Nat) (l3 : List Bk) (n : Nat) (hn : n < kept.length) : ∀ k, nowTo kept l2 l3 n k = (flTo kept l2 l3 k).getD n default
  | 0 => rfl
  | k + 1 => by
    rw [nowTo, flTo, nowTo_fl kept l2 l3 n hn k]
    by_cases e : l2.getD k 0 = n
    · rw [if_pos e, e, List.getD, List.getD, List.getElem?_set_self (by rw [flTo_length]; exact hn)]
      rfl
    · rw [if_neg e, List.getD, List.getD, List.getElem?_set_ne e]

/-- They are the same. -/
structure Sim (D : Dv) (R : Rv) : Prop where
  kept : R.kept = D.base
  at' : R.at' = D.ws.map (·.n)
  bs : R.bs = D.ws.map (·.is)
  arm : R.arm = D.left
  down : R.down = D.down
  ops : R.ops = D.ops
  now : D.bs = D.ws.foldl (fun bs x => bs.set x.n x.is) D.base
/-- What the reference's calls come to. -/
def Rv.call (R : Rv) : Rv := { R with ops := R.ops + 1, down := R.down || decide (R.arm = 0), arm := rArm R.arm }
def Rv.write (R : Rv) (n : Nat) (x : Bk) : Rv := { R with at' := R.at' ++ [n], bs := R.bs ++ [x] }
def Rv.flush (R : Rv) : Rv := { R with kept := flTo R.kept R.at' R.bs R.at'.length, at' := [], bs := [] }
def Rv.fall (R : Rv) (keep : List Int) : Rv := { R with kept := rdTo keep R.kept R.at' R.bs R.at'.length, at' := [], bs := [], arm := -1, down := false }
section
variable {D : Dv} {R : Rv}
theorem Sim.new (n : Nat) : Sim (Dv.new n) ⟨List.replicate n default, [], [], -1, false, 0⟩ := ⟨rfl, rfl, rfl, rfl, rfl, rfl, rfl⟩
theorem Sim.call (h : Sim D R) (hl : -1 ≤ D.left) : Sim D.call R.call := by
  refine ⟨h.kept, h.at', h.bs, ?_, ?_, ?_, h.now⟩
  · show rArm R.arm = if D.left ≤ 0 then -1 else D.left - 1
    rw [h.arm, rArm]
    split <;> split <;> omega
  · show (R.down || decide (R.arm = 0)) = (D.down || decide (D.left = 0))
    rw [h.down, h.arm]
  · show R.ops + 1 = D.ops + 1
    rw [h.ops]
theorem Sim.arm' (h : Sim D R) (n : Int) : Sim (D.arm n) { R with arm := if -1 ≤ n then n else -1 } := ⟨h.kept, h.at', h.bs, rfl, h.down, h.ops, h.now⟩
theorem Sim.write (h : Sim D R) {n : Nat} (hn : n < D.bs.length) (x : Bk) : Sim (D.write n x) (R.write n x) := by
  refine ⟨h.kept.trans (base_write x hn).symm, ?_, ?_, h.arm, h.down, h.ops, ?_⟩
  · show R.at' ++ [n] = (D.ws ++ [(⟨n, D.blk n, x⟩ : Wr)]).map (·.n)
    rw [h.at', List.map_append]
    rfl
  · show R.bs ++ [x] = (D.ws ++ [(⟨n, D.blk n, x⟩ : Wr)]).map (·.is)
    rw [h.bs, List.map_append]
    rfl
  · rw [base_write x hn]
    show D.bs.set n x = (D.ws ++ [(⟨n, D.blk n, x⟩ : Wr)]).foldl (fun bs x => bs.set x.n x.is) D.base
    rw [List.foldl_append, ← h.now]
    rfl
theorem Sim.fl (h : Sim D R) : flTo R.kept R.at' R.bs R.at'.length = D.bs := by
  rw [h.kept, h.at', h.bs, List.length_map, flTo_fold _ _ _ (Nat.le_refl _), List.take_length, ← h.now]
theorem Sim.flush (h : Sim D R) : Sim D.flush R.flush := ⟨h.fl, rfl, rfl, h.arm, h.down, h.ops, rfl⟩
theorem Sim.fall (h : Sim D R) (keep : List Int) : Sim (D.fall keep) (R.fall keep) := by
  refine ⟨?_, rfl, rfl, rfl, rfl, h.ops, rfl⟩
  show rdTo keep R.kept R.at' R.bs R.at'.length = redo keep D.base D.ws D.ws.length
  rw [h.kept, h.at', h.bs, List.length_map, rdTo_redo _ _ _ _ (Nat.le_refl _)]
theorem Sim.blk (h : Sim D R) {n : Nat} (hn : n < D.bs.length) : nowTo R.kept R.at' R.bs n R.at'.length = D.blk n := by
  rw [nowTo_fl _ _ _ _ (by rw [h.kept, base_length]; exact hn), h.fl]
  rfl
end
end Go.Proofs.Ytemgphpgfdnkeaa
