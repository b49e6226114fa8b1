/-
  Words for slices that are read, whatever the program: laws on cuts of slices, and on storing many cells within a block.
-/
import Derived.Test.YtnhondkdkjehaaaBase
import Derived.Laws.CopyRow
import Derived.Laws.CopyOwn
import Derived.Deep.MidRow
import Derived.Deep.QuietTactic
namespace Go.Proofs.Ytnhondkdkjehaaa
open Go.RowKit

/-- Bytes as cells. -/
def bc (l : List UInt8) : List Value := l.map fun b => Value.int .u8 (b.toNat : Int)
theorem bc_append (l m : List UInt8) : bc (l ++ m) = bc l ++ bc m := by simp [bc]
theorem bc_length (l : List UInt8) : (bc l).length = l.length := by simp [bc]
theorem bc_take (l : List UInt8) (n : Nat) : (bc l).take n = bc (l.take n) := by simp [bc, List.map_take]
theorem bc_drop (l : List UInt8) (n : Nat) : (bc l).drop n = bc (l.drop n) := by simp [bc, List.map_drop]
theorem bc_one (l : List UInt8) : ∀ u ∈ bc l, u.oneCell' = true := by
  intro u hu
  simp only [bc, List.mem_map] at hu
  obtain ⟨b, _, rfl⟩ := hu
  rfl

theorem add_block (a : Addr) (n : Nat) : (a.add n).block = a.block := by
  unfold Addr.add
  split <;> rfl
theorem add_zero' (a : Addr) : a.add 0 = a := by simp [Addr.add]
theorem add_add' (a : Addr) (m n : Nat) : (a.add m).add n = a.add (m + n) := by
  unfold Addr.add
  by_cases hm : m = 0
  · subst hm
    simp
  · by_cases hn : n = 0
    · subst hn
      simp [hm]
    · have : ¬ m + n = 0 := by omega
      simp only [if_neg hm, if_neg hn, if_neg this, Nat.add_assoc]

/-- The slice (A, n, c) reads as the cells xs, in a block that is there and that fits N. -/
def Lies (w : World) (N : Nat → Prop) (A : Option Addr) (n c : Nat) (xs : List Value) : Prop :=
  xs.length = n ∧ n ≤ c ∧ (0 < n → ∃ ad, A = some ad ∧ N ad.block ∧ ad.block < w.heap.size ∧ ∀ j u, xs[j]? = some u → w.cell? (ad.add j) = some u)
/-- Where a cut from m on begins. -/
def cutA (A : Option Addr) (c m : Nat) : Option Addr := if c = m then A else A.map (·.add m)

section
variable {w w' : World} {N N' : Nat → Prop} {A : Option Addr} {n c : Nat} {xs : List Value}
theorem Lies.len (h : Lies w N A n c xs) : xs.length = n := h.1
theorem Lies.le (h : Lies w N A n c xs) : n ≤ c := h.2.1
theorem Lies.keep (h : Lies w N A n c xs) (hk : ∀ p : Addr, N p.block → p.block < w.heap.size → w'.cell? p = w.cell? p) (hz : w.heap.size ≤ w'.heap.size) : Lies w' N A n c xs := by
  refine ⟨h.1, h.2.1, fun hn => ?_⟩
  obtain ⟨ad, h1, h2, h3, h4⟩ := h.2.2 hn
  exact ⟨ad, h1, h2, Nat.lt_of_lt_of_le h3 hz, fun j u hu => (hk _ (by rw [add_block]; exact h2) (by rw [add_block]; exact h3)).trans (h4 j u hu)⟩
theorem Lies.below (h : Lies w N A n c xs) (hb : Below w.heap.size w w') : Lies w' N A n c xs := h.keep (fun _ _ hp => hb.cell hp) hb.size
theorem Lies.weak (h : Lies w N A n c xs) (hN : ∀ b, b < w.heap.size → N b → N' b) : Lies w N' A n c xs := by
  refine ⟨h.1, h.2.1, fun hn => ?_⟩
  obtain ⟨ad, h1, h2, h3, h4⟩ := h.2.2 hn
  exact ⟨ad, h1, hN _ h3 h2, h3, h4⟩
theorem Lies.drew (h : Lies w N A n c xs) : Lies w.drew N A n c xs := h
theorem Lies.drewN (h : Lies w N A n c xs) (k : Nat) : Lies (w.drewN k) N A n c xs := h
theorem Lies.grown {g : Nat} (h : Lies w N A n c xs) (hb : w.grownBy w' (some g)) (hN : ¬ N g) : Lies w' N A n c xs :=
  h.keep (fun p hp hl => World.cell?_of_block (w := w) (hb.block p.block hl (by intro e; injection e with e; exact hN (e ▸ hp)))) hb.size
theorem Lies.nil (w : World) (N : Nat → Prop) : Lies w N none 0 0 [] := ⟨rfl, Nat.le_refl _, fun h => absurd h (Nat.lt_irrefl _)⟩
theorem Lies.first (h : Lies w N A n c xs) {m : Nat} (hm : m ≤ n) : Lies w N A m c (xs.take m) := by
  refine ⟨by rw [List.length_take, h.1, Nat.min_eq_left hm], Nat.le_trans hm h.2.1, fun h0 => ?_⟩
  obtain ⟨ad, h1, h2, h3, h4⟩ := h.2.2 (by omega)
  refine ⟨ad, h1, h2, h3, fun j u hu => ?_⟩
  rw [List.getElem?_take] at hu
  split at hu
  · exact h4 j u hu
  · cases hu
theorem Lies.from (h : Lies w N A n c xs) (m : Nat) (hm : m ≤ n) : Lies w N (cutA A c m) (n - m) (c - m) (xs.drop m) := by
  refine ⟨by rw [List.length_drop, h.1], by have := h.2.1; omega, fun h0 => ?_⟩
  obtain ⟨ad, h1, h2, h3, h4⟩ := h.2.2 (by omega)
  have hc : ¬ c = m := by have := h.2.1; omega
  refine ⟨ad.add m, ?_, by rw [add_block]; exact h2, by rw [add_block]; exact h3, fun j u hu => ?_⟩
  · rw [cutA, if_neg hc, h1]
    rfl
  · rw [List.getElem?_drop] at hu
    rw [add_add']
    exact h4 _ u hu
theorem Lies.at (h : Lies w N A n c xs) {j : Nat} {u : Value} (hu : xs[j]? = some u) : ∃ b off, A = some ⟨b, off, none⟩ ∧ N b ∧ b < w.heap.size ∧ w.cell? ⟨b, off + j, none⟩ = some u := by
  have hj : j < xs.length := (List.getElem?_eq_some_iff.1 hu).1
  have hn : 0 < n := by rw [← h.1]; omega
  obtain ⟨⟨b, off, spot⟩, h1, h2, h3, h4⟩ := h.2.2 hn
  have h0 := h4 0 xs[0] (List.getElem?_eq_getElem (by omega))
  have hs : spot = none := by simpa [Addr.add] using World.cell?_spot h0
  subst hs
  refine ⟨b, off, h1, h2, h3, ?_⟩
  rw [← h4 j u hu]
  congr 1
  exact (Addr.add_mid b off j).symm
end

section
variable {P : Program}
theorem sizeOf_one {e : TypeId} (hi : (P.info? e).map (·.size) = some 1) (w : World) : (sizeOf e).run P w = .ok 1 w := by
  cases hq : P.info? e with
  | none => simp [hq] at hi
  | some i =>
    have : i.size = 1 := by simpa [hq] using hi
    simp [sizeOf, typeInfo, hq, this]
theorem elem_of {t e : TypeId} (ht : P.underlying t = some (.slice e)) : P.underlying t = some (.slice (P.elem t)) ∧ P.elem t = e := by
  have : P.elem t = e := by simp [Program.elem, ht]
  exact ⟨by rw [this]; exact ht, this⟩
/-- 'x[m:]'. -/
theorem sliceAt_from {t e : TypeId} (ht : P.underlying t = some (.slice e)) (hi : (P.info? e).map (·.size) = some 1) (k : IntKind) (A : Option Addr) (n c m : Nat) (h : m ≤ n) (w : World) :
    (Instr.sliceAt t (.slice A n c) (some (.int k (m : Int))) none none).run P w = .ok (.slice (cutA A c m) (n - m) (c - m)) w := by
  obtain ⟨h1, h2⟩ := elem_of ht
  rw [run_sliceAt_slice w t _ _ _ _ h1, run_slice_l w t A n c h1 k (m : Int) (by omega) (by omega), h2, sizeOf_one hi w]
  simp [Result.andThen, sliced, cutA]
/-- 'x[:m]'. -/
theorem sliceAt_to {t e : TypeId} (ht : P.underlying t = some (.slice e)) (hi : (P.info? e).map (·.size) = some 1) (k : IntKind) (A : Option Addr) (n c m : Nat) (h : m ≤ c) (w : World) :
    (Instr.sliceAt t (.slice A n c) none (some (.int k (m : Int))) none).run P w = .ok (.slice A m c) w := by
  obtain ⟨h1, h2⟩ := elem_of ht
  rw [run_sliceAt_slice w t _ _ _ _ h1, run_slice_h w t A n c h1 k (m : Int) (by omega) (by omega), h2, sizeOf_one hi w]
  have : (A.map fun a => a.add 0) = A := by cases A <;> simp [add_zero']
  simp [Result.andThen, sliced, this]
/-- 'x[m:j]'. -/
theorem sliceAt_part {t e : TypeId} (ht : P.underlying t = some (.slice e)) (hi : (P.info? e).map (·.size) = some 1) (k k' : IntKind) (A : Option Addr) (n c m j : Nat) (h : m ≤ j) (hj : j ≤ c) (w : World) :
    (Instr.sliceAt t (.slice A n c) (some (.int k (m : Int))) (some (.int k' (j : Int))) none).run P w = .ok (.slice (cutA A c m) (j - m) (c - m)) w := by
  obtain ⟨h1, h2⟩ := elem_of ht
  rw [run_sliceAt_slice w t _ _ _ _ h1, run_slice_lh w t A n c h1 k k' (m : Int) (j : Int) (by omega) (by omega) (by omega), h2, sizeOf_one hi w]
  simp [Result.andThen, sliced, cutA]

/-- Many cells at once into the middle of a block that is known whole. -/
theorem run_storeAt_within (w : World) (g o : Nat) (ty t : TypeId) (cur cells : Array Value) (hg : w.heap[g]? = some (.cells cur t (0, 0))) (hf : o + cells.size ≤ cur.size) (hi : (P.info? ty).map (·.size) = some cells.size) (h1 : cells.all (·.oneCell') = true) :
    (Instr.storeAt ty (.pointer (some ⟨g, o, none⟩)) (.agg cells)).run P w = .ok () (w.setRow g (cur.toList.take o ++ cells.toList ++ cur.toList.drop (o + cells.size)).toArray) := by
  have := run_storeCells_at P g o t cells.toList 0 cur w hg (by simpa using hf) (fun v hv => (Array.all_eq_true_iff_forall_mem.1 h1) v (by simpa using hv))
  cases hq : P.info? ty with
  | none => simp [hq] at hi
  | some i =>
    have hs : cells.size = i.size := by simp [hq] at hi; omega
    simp only [Nat.add_zero, Array.length_toList] at this
    simp [Instr.storeAt, Instr.sureAddr, storeVar, sizeOf, typeInfo, hq, Value.cells, hs] at this ⊢
    rw [this]
theorem wpList_store_within {ops : Array Oper} {rest : List Oper} {o : Oper} {a : Act} {w : World} {Q : Exit → Act → World → Prop} (hgd : o.guard = none) (ty : TypeId) (x y : Operand) (ho : o.op = .store ty x y)
    (g off : Nat) (cells : Array Value) (hx : a.eval x = .pointer (some ⟨g, off, none⟩)) (hy : a.eval y = .agg cells) (t : TypeId) (cur : Array Value) (hg : w.heap[g]? = some (.cells cur t (0, 0))) (hf : off + cells.size ≤ cur.size)
    (hi : (P.info? ty).map (·.size) = some cells.size) (h1 : cells.all (·.oneCell') = true)
    (h : wpList P ops Q rest (a.put o.dst undef) (w.setRow g (cur.toList.take off ++ cells.toList ++ cur.toList.drop (off + cells.size)).toArray)) : wpList P ops Q (o :: rest) a w :=
  wpList_plain hgd fun K hK => by
    unfold Oper.wp execOp
    simp only [ho, hx, hy, Sem.run_bind, Result.andThen_ok, run_storeAt_within w g off ty t cur cells hg hf hi h1]
    exact hK _ _ h
end

theorem grown_row {a b : World} {g : Nat} (h : a.grownBy b (some g)) (cs : Array Value) : a.grownBy (b.setRow g cs) (some g) :=
  ⟨h.os, h.tape, h.output, by rw [setRow_size]; exact h.size, fun k hk hne => (setRow_other b g k cs (fun e => hne (by rw [e]))).trans (h.block k hk hne)⟩
theorem grown_drew {a b : World} {row : Option Nat} (h : a.grownBy b row) : a.grownBy b.drew row := ⟨h.os, h.tape, h.output, h.size, h.block⟩
theorem grown_drewN {a b : World} {row : Option Nat} (h : a.grownBy b row) (n : Nat) : a.grownBy (b.drewN n) row := ⟨h.os, h.tape, h.output, h.size, h.block⟩
theorem grown_trans {a b c : World} {row : Option Nat} (h : a.grownBy b row) (h' : b.grownBy c row) : a.grownBy c row :=
  ⟨h'.os.trans h.os, h'.tape.trans h.tape, h'.output.trans h.output, Nat.le_trans h.size h'.size, fun k hk hne => (h'.block k (Nat.lt_of_lt_of_le hk h.size) hne).trans (h.block k hk hne)⟩

end Go.Proofs.Ytnhondkdkjehaaa
