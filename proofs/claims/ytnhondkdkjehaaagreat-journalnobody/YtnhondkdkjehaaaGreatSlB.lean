/-
  Words for slices that are read, whatever the program: laws on cuts of slices, and on storing many cells within a block.
  Taking operations of a drawn region one by one, in the text's order: those that run, and those whose guard says no.
  A row of bytes of the call's own that grows by 'append(all, b...)'.
  A row of bytes that is made whole and then filled place by place.
  Texts: put together, cut, and made of bytes.
  'copy(dst, src)' of bytes to any place of a block that is known whole, whatever lies in it.
  A region that draws its order, whose operations only read, and whose callees leave all that lay as it was: walked once, in the text's order.
-/
import Derived.Test.YtnhondkdkjehaaaGreatSlA
import Derived.Laws.CopyRow
import Derived.Laws.CopyOwn
import Derived.Deep.MidRow
import Derived.Deep.QuietTactic
import Derived.Deep.RegionHeld3
import Derived.StillTailTactics
import Derived.Test.YtnhondkdkjehaaaGreatProg
import Derived.Laws.AppendOwn
import Derived.Laws.AppendOwnNone
import Derived.OwnWalk
import Derived.Laws.OwnMore
import Derived.Laws.BytesArg
import Derived.Lib.Strings
import Derived.Sort.Grow
namespace Go.Proofs.YtnhondkdkjehaaaGreat
open Go.RowKit

/-- Bytes as cells. -/
def bc (l : List UInt8) : List Value := l.map fun b => Value.int .u8 (b.toNat : Int)
theorem bc_append (l m : List UInt8) : bc (l ++ m) = bc l ++ bc m := by simp [bc]
theorem bc_length (l : List UInt8) : (bc l).length = l.length := by simp [bc]
theorem bc_take (l : List UInt8) (n : Nat) : (bc l).take n = bc (l.take n) := by simp [bc, List.map_take]
theorem bc_drop (l : List UInt8) (n : Nat) : (bc l).drop n = bc (l.drop n) := by simp [bc, List.map_drop]
theorem bc_one (l : List UInt8) : ∀ u ∈ bc l, u.oneCell' = true := by
  intro u hu
  simp only [bc, List.mem_map] at hu
  obtain ⟨b, _, rfl⟩ := hu
  rfl

theorem add_block (a : Addr) (n : Nat) : (a.add n).block = a.block := by
  unfold Addr.add
  split <;> rfl
theorem add_zero' (a : Addr) : a.add 0 = a := by simp [Addr.add]
theorem add_add' (a : Addr) (m n : Nat) : (a.add m).add n = a.add (m + n) := by
  unfold Addr.add
  by_cases hm : m = 0
  · subst hm
    simp
  · by_cases hn : n = 0
    · subst hn
      simp [hm]
    · have : ¬ m + n = 0 := by omega
      simp only [if_neg hm, if_neg hn, if_neg this, Nat.add_assoc]

/-- The slice (A, n, c) reads as the cells xs, in a block that is there and that fits N. -/
def Lies (w : World) (N : Nat → Prop) (A : Option Addr) (n c : Nat) (xs : List Value) : Prop :=
  xs.length = n ∧ n ≤ c ∧ (0 < n → ∃ ad, A = some ad ∧ N ad.block ∧ ad.block < w.heap.size ∧ ∀ j u, xs[j]? = some u → w.cell? (ad.add j) = some u)
/-- Where a cut from m on begins. -/
def cutA (A : Option Addr) (c m : Nat) : Option Addr := if c = m then A else A.map (·.add m)

section
variable {w w' : World} {N N' : Nat → Prop} {A : Option Addr} {n c : Nat} {xs : List Value}
theorem Lies.len (h : Lies w N A n c xs) : xs.length = n := h.1
theorem Lies.le (h : Lies w N A n c xs) : n ≤ c := h.2.1
theorem Lies.keep (h : Lies w N A n c xs) (hk : ∀ p : Addr, N p.block → p.block < w.heap.size → w'.cell? p = w.cell? p) (hz : w.heap.size ≤ w'.heap.size) : Lies w' N A n c xs := by
  refine ⟨h.1, h.2.1, fun hn => ?_⟩
  obtain ⟨ad, h1, h2, h3, h4⟩ := h.2.2 hn
  exact ⟨ad, h1, h2, Nat.lt_of_lt_of_le h3 hz, fun j u hu => (hk _ (by rw [add_block]; exact h2) (by rw [add_block]; exact h3)).trans (h4 j u hu)⟩
theorem Lies.below (h : Lies w N A n c xs) (hb : Below w.heap.size w w') : Lies w' N A n c xs := h.keep (fun _ _ hp => hb.cell hp) hb.size
theorem Lies.weak (h : Lies w N A n c xs) (hN : ∀ b, b < w.heap.size → N b → N' b) : Lies w N' A n c xs := by
  refine ⟨h.1, h.2.1, fun hn => ?_⟩
  obtain ⟨ad, h1, h2, h3, h4⟩ := h.2.2 hn
  exact ⟨ad, h1, hN _ h3 h2, h3, h4⟩
theorem Lies.drew (h : Lies w N A n c xs) : Lies w.drew N A n c xs := h
theorem Lies.drewN (h : Lies w N A n c xs) (k : Nat) : Lies (w.drewN k) N A n c xs := h
theorem Lies.grown {g : Nat} (h : Lies w N A n c xs) (hb : w.grownBy w' (some g)) (hN : ¬ N g) : Lies w' N A n c xs :=
  h.keep (fun p hp hl => World.cell?_of_block (w := w) (hb.block p.block hl (by intro e; injection e with e; exact hN (e ▸ hp)))) hb.size
theorem Lies.nil (w : World) (N : Nat → Prop) : Lies w N none 0 0 [] := ⟨rfl, Nat.le_refl _, fun h => absurd h (Nat.lt_irrefl _)⟩
theorem Lies.first (h : Lies w N A n c xs) {m : Nat} (hm : m ≤ n) : Lies w N A m c (xs.take m) := by
  refine ⟨by rw [List.length_take, h.1, Nat.min_eq_left hm], Nat.le_trans hm h.2.1, fun h0 => ?_⟩
  obtain ⟨ad, h1, h2, h3, h4⟩ := h.2.2 (by omega)
  refine ⟨ad, h1, h2, h3, fun j u hu => ?_⟩
  rw [List.getElem?_take] at hu
  split at hu
  · exact h4 j u hu
  · cases hu
theorem Lies.from (h : Lies w N A n c xs) (m : Nat) (hm : m ≤ n) : Lies w N (cutA A c m) (n - m) (c - m) (xs.drop m) := by
  refine ⟨by rw [List.length_drop, h.1], by have := h.2.1; omega, fun h0 => ?_⟩
  obtain ⟨ad, h1, h2, h3, h4⟩ := h.2.2 (by omega)
  have hc : ¬ c = m := by have := h.2.1; omega
  refine ⟨ad.add m, ?_, by rw [add_block]; exact h2, by rw [add_block]; exact h3, fun j u hu => ?_⟩
  · rw [cutA, if_neg hc, h1]
    rfl
  · rw [List.getElem?_drop] at hu
    rw [add_add']
    exact h4 _ u hu
theorem Lies.at (h : Lies w N A n c xs) {j : Nat} {u : Value} (hu : xs[j]? = some u) : ∃ b off, A = some ⟨b, off, none⟩ ∧ N b ∧ b < w.heap.size ∧ w.cell? ⟨b, off + j, none⟩ = some u := by
  have hj : j < xs.length := (List.getElem?_eq_some_iff.1 hu).1
  have hn : 0 < n := by rw [← h.1]; omega
  obtain ⟨⟨b, off, spot⟩, h1, h2, h3, h4⟩ := h.2.2 hn
  have h0 := h4 0 xs[0] (List.getElem?_eq_getElem (by omega))
  have hs : spot = none := by simpa [Addr.add] using World.cell?_spot h0
  subst hs
  refine ⟨b, off, h1, h2, h3, ?_⟩
  rw [← h4 j u hu]
  congr 1
  exact (Addr.add_mid b off j).symm
end

section
variable {P : Program}
theorem sizeOf_one {e : TypeId} (hi : (P.info? e).map (·.size) = some 1) (w : World) : (sizeOf e).run P w = .ok 1 w := by
  cases hq : P.info? e with
  | none => simp [hq] at hi
  | some i =>
    have : i.size = 1 := by simpa [hq] using hi
    simp [sizeOf, typeInfo, hq, this]
theorem elem_of {t e : TypeId} (ht : P.underlying t = some (.slice e)) : P.underlying t = some (.slice (P.elem t)) ∧ P.elem t = e := by
  have : P.elem t = e := by simp [Program.elem, ht]
  exact ⟨by rw [this]; exact ht, this⟩
/-- 'x[m:]'. -/
theorem sliceAt_from {t e : TypeId} (ht : P.underlying t = some (.slice e)) (hi : (P.info? e).map (·.size) = some 1) (k : IntKind) (A : Option Addr) (n c m : Nat) (h : m ≤ n) (w : World) :
    (Instr.sliceAt t (.slice A n c) (some (.int k (m : Int))) none none).run P w = .ok (.slice (cutA A c m) (n - m) (c - m)) w := by
  obtain ⟨h1, h2⟩ := elem_of ht
  rw [run_sliceAt_slice w t _ _ _ _ h1, run_slice_l w t A n c h1 k (m : Int) (by omega) (by omega), h2, sizeOf_one hi w]
  simp [Result.andThen, sliced, cutA]
/-- 'x[:m]'. -/
theorem sliceAt_to {t e : TypeId} (ht : P.underlying t = some (.slice e)) (hi : (P.info? e).map (·.size) = some 1) (k : IntKind) (A : Option Addr) (n c m : Nat) (h : m ≤ c) (w : World) :
    (Instr.sliceAt t (.slice A n c) none (some (.int k (m : Int))) none).run P w = .ok (.slice A m c) w := by
  obtain ⟨h1, h2⟩ := elem_of ht
  rw [run_sliceAt_slice w t _ _ _ _ h1, run_slice_h w t A n c h1 k (m : Int) (by omega) (by omega), h2, sizeOf_one hi w]
  have : (A.map fun a => a.add 0) = A := by cases A <;> simp [add_zero']
  simp [Result.andThen, sliced, this]
/-- 'x[m:j]'. -/
theorem sliceAt_part {t e : TypeId} (ht : P.underlying t = some (.slice e)) (hi : (P.info? e).map (·.size) = some 1) (k k' : IntKind) (A : Option Addr) (n c m j : Nat) (h : m ≤ j) (hj : j ≤ c) (w : World) :
    (Instr.sliceAt t (.slice A n c) (some (.int k (m : Int))) (some (.int k' (j : Int))) none).run P w = .ok (.slice (cutA A c m) (j - m) (c - m)) w := by
  obtain ⟨h1, h2⟩ := elem_of ht
  rw [run_sliceAt_slice w t _ _ _ _ h1, run_slice_lh w t A n c h1 k k' (m : Int) (j : Int) (by omega) (by omega) (by omega), h2, sizeOf_one hi w]
  simp [Result.andThen, sliced, cutA]

/-- Many cells at once into the middle of a block that is known whole. -/
theorem run_storeAt_within (w : World) (g o : Nat) (ty t : TypeId) (cur cells : Array Value) (hg : w.heap[g]? = some (.cells cur t (0, 0))) (hf : o + cells.size ≤ cur.size) (hi : (P.info? ty).map (·.size) = some cells.size) (h1 : cells.all (·.oneCell') = true) :
    (Instr.storeAt ty (.pointer (some ⟨g, o, none⟩)) (.agg cells)).run P w = .ok () (w.setRow g (cur.toList.take o ++ cells.toList ++ cur.toList.drop (o + cells.size)).toArray) := by
  have := run_storeCells_at P g o t cells.toList 0 cur w hg (by simpa using hf) (fun v hv => (Array.all_eq_true_iff_forall_mem.1 h1) v (by simpa using hv))
  cases hq : P.info? ty with
  | none => simp [hq] at hi
  | some i =>
    have hs : cells.size = i.size := by simp [hq] at hi; omega
    simp only [Nat.add_zero, Array.length_toList] at this
    simp [Instr.storeAt, Instr.sureAddr, storeVar, sizeOf, typeInfo, hq, Value.cells, hs] at this ⊢
    rw [this]
theorem wpList_store_within {ops : Array Oper} {rest : List Oper} {o : Oper} {a : Act} {w : World} {Q : Exit → Act → World → Prop} (hgd : o.guard = none) (ty : TypeId) (x y : Operand) (ho : o.op = .store ty x y)
    (g off : Nat) (cells : Array Value) (hx : a.eval x = .pointer (some ⟨g, off, none⟩)) (hy : a.eval y = .agg cells) (t : TypeId) (cur : Array Value) (hg : w.heap[g]? = some (.cells cur t (0, 0))) (hf : off + cells.size ≤ cur.size)
    (hi : (P.info? ty).map (·.size) = some cells.size) (h1 : cells.all (·.oneCell') = true)
    (h : wpList P ops Q rest (a.put o.dst undef) (w.setRow g (cur.toList.take off ++ cells.toList ++ cur.toList.drop (off + cells.size)).toArray)) : wpList P ops Q (o :: rest) a w :=
  wpList_plain hgd fun K hK => by
    unfold Oper.wp execOp
    simp only [ho, hx, hy, Sem.run_bind, Result.andThen_ok, run_storeAt_within w g off ty t cur cells hg hf hi h1]
    exact hK _ _ h
end

theorem grown_row {a b : World} {g : Nat} (h : a.grownBy b (some g)) (cs : Array Value) : a.grownBy (b.setRow g cs) (some g) :=
  ⟨h.os, h.tape, h.output, by rw [setRow_size]; exact h.size, fun k hk hne => (setRow_other b g k cs (fun e => hne (by rw [e]))).trans (h.block k hk hne)⟩
theorem grown_drew {a b : World} {row : Option Nat} (h : a.grownBy b row) : a.grownBy b.drew row := ⟨h.os, h.tape, h.output, h.size, h.block⟩
theorem grown_drewN {a b : World} {row : Option Nat} (h : a.grownBy b row) (n : Nat) : a.grownBy (b.drewN n) row := ⟨h.os, h.tape, h.output, h.size, h.block⟩
theorem grown_trans {a b c : World} {row : Option Nat} (h : a.grownBy b row) (h' : b.grownBy c row) : a.grownBy c row :=
  ⟨h'.os.trans h.os, h'.tape.trans h.tape, h'.output.trans h.output, Nat.le_trans h.size h'.size, fun k hk hne => (h'.block k (Nat.lt_of_lt_of_le hk h.size) hne).trans (h.block k hk hne)⟩

end Go.Proofs.YtnhondkdkjehaaaGreat
namespace Go.Proofs.YtnhondkdkjehaaaGreat

section
variable {P : Program} {ops : Array Oper} {Q : Exit → Act → World → Prop} {md : Region.Mode} {S : World → Prop}
theorem take_run (i d : Nat) {oi : Oper} {v : Value} {fuel : Nat} {listed : Array Bool} {a : Act} {w : World} (hi : ops[i]? = some oi) (hd : oi.dst = some d)
    (hs : Region.noSelect ops = true) (hf : Region.free md ops listed i = true) (hr : (Region.ready md ops listed).contains i = true)
    (hQ : ∀ c a w, Q (.panic c) (a.put (some d) v) w → Q (.panic c) a w) (hw : Region.wanted oi (yielded ops a.tmps) = true) (hy : ∀ w, S w → (execOp a.eval oi).run P w = .ok (.value v) w) (hS : S w)
    (h : wpAnyH P md ops Q S fuel (listed.setIfInBounds i true) (a.put (some d) v) w) : wpAnyH P md ops Q S (fuel + 1) listed a w := by
  rw [← hd] at hQ h
  exact wpAnyH_take hi hs hf hr hQ (Or.inl ⟨hw, hy⟩) hS h
theorem take_skip (i d : Nat) {oi : Oper} {fuel : Nat} {listed : Array Bool} {a : Act} {w : World} (hi : ops[i]? = some oi) (hd : oi.dst = some d)
    (hs : Region.noSelect ops = true) (hf : Region.free md ops listed i = true) (hr : (Region.ready md ops listed).contains i = true)
    (hQ : ∀ c a w, Q (.panic c) (a.put (some d) undef) w → Q (.panic c) a w) (hw : Region.wanted oi (yielded ops a.tmps) = false) (hS : S w)
    (h : wpAnyH P md ops Q S fuel (listed.setIfInBounds i true) (a.put (some d) undef) w) : wpAnyH P md ops Q S (fuel + 1) listed a w := by
  rw [← hd] at hQ h
  exact wpAnyH_take hi hs hf hr hQ (Or.inr ⟨hw, rfl⟩) hS h
/-- A load of many cells, out of the middle of a block. -/
theorem take_load (i d : Nat) (ty : TypeId) (x : Operand) (b o : Nat) (cs : List Value) (ds : TypeDesc) {oi : Oper} {fuel : Nat} {listed : Array Bool} {a : Act} {w : World} (hi : ops[i]? = some oi) (hd : oi.dst = some d) (ho : oi.op = .load ty x)
    (hs : Region.noSelect ops = true) (hf : Region.free md ops listed i = true) (hr : (Region.ready md ops listed).contains i = true)
    (hQ : ∀ c a w, Q (.panic c) (a.put (some d) (.agg cs.toArray)) w → Q (.panic c) a w) (hw : Region.wanted oi (yielded ops a.tmps) = true) (hx : a.eval x = .pointer (some ⟨b, o, none⟩)) (hc : ∀ w, S w → w.rangeAt b o cs)
    (hu : P.underlying ty = some ds) (hrow : ds.isRow = true) (hsz : (P.info? ty).map (·.size) = some cs.length) (hS : S w)
    (h : wpAnyH P md ops Q S fuel (listed.setIfInBounds i true) (a.put (some d) (.agg cs.toArray)) w) : wpAnyH P md ops Q S (fuel + 1) listed a w := by
  rw [← hd] at hQ h
  exact wpAnyH_take hi hs hf hr hQ (yieldsIf_load_mid hw ty x ho b o hx cs ds hc hu hrow hsz) hS h
/-- A load of many cells in a region whose first operations only read ('go_still_tail'). -/
theorem wpStill_load {w : World} {o : Oper} {rest : List Oper} {a : Act} {K : Act → Prop} (hgd : o.guard = none) (ty : TypeId) (x : Operand) (ho : o.op = .load ty x) (b off : Nat) (hx : a.eval x = .pointer (some ⟨b, off, none⟩)) (cs : List Value) (ds : TypeDesc)
    (hc : w.rangeAt b off cs) (hu : P.underlying ty = some ds) (hrow : ds.isRow = true) (hsz : (P.info? ty).map (·.size) = some cs.length) (h : wpStill P ops w K rest (a.put o.dst (.agg cs.toArray))) : wpStill P ops w K (o :: rest) a := by
  have hw : Region.wanted o (yielded ops a.tmps) = true := by simp [Region.wanted, hgd]
  simp only [wpStill, hw, if_true, Oper.still]
  unfold execOp
  simp only [ho, hx, Sem.run_bind, Result.andThen_ok, run_loadAt_mid w b off ty cs ds hc hu hrow hsz, Sem.run_pure]
  exact ⟨rfl, h⟩
/-- A load of many cells as one step of a drawn region. -/
theorem step_load_mid {o : Oper} {a : Act} {w : World} {K : Act → World → Prop} {E : Prop} (ty : TypeId) (x : Operand) (hgd : o.guard = none) (ho : o.op = .load ty x) (b off : Nat) (hx : a.eval x = .pointer (some ⟨b, off, none⟩)) (cs : List Value) (ds : TypeDesc)
    (hc : w.rangeAt b off cs) (hu : P.underlying ty = some ds) (hrow : ds.isRow = true) (hsz : (P.info? ty).map (·.size) = some cs.length) (h : K (a.put o.dst (.agg cs.toArray)) w) :
    if Region.wanted o (yielded ops a.tmps) = true then Oper.wp P o a w K Q else E := by
  have hw : Region.wanted o (yielded ops a.tmps) = true := by simp [Region.wanted, hgd]
  rw [if_pos hw]
  exact wp_load_mid ty x ho b off hx cs ds hc hu hrow hsz h
/-- A store of many cells into the middle of a block, as one step of a drawn region. -/
theorem step_store_within {o : Oper} {a : Act} {w : World} {K : Act → World → Prop} {E : Prop} (ty : TypeId) (x y : Operand) (hgd : o.guard = none) (ho : o.op = .store ty x y)
    (g off : Nat) (cells : Array Value) (hx : a.eval x = .pointer (some ⟨g, off, none⟩)) (hy : a.eval y = .agg cells) (t : TypeId) (cur : Array Value) (hg : w.heap[g]? = some (.cells cur t (0, 0))) (hf : off + cells.size ≤ cur.size)
    (hi : (P.info? ty).map (·.size) = some cells.size) (h1 : cells.all (·.oneCell') = true)
    (h : K (a.put o.dst undef) (w.setRow g (cur.toList.take off ++ cells.toList ++ cur.toList.drop (off + cells.size)).toArray)) :
    if Region.wanted o (yielded ops a.tmps) = true then Oper.wp P o a w K Q else E := by
  have hw : Region.wanted o (yielded ops a.tmps) = true := by simp [Region.wanted, hgd]
  rw [if_pos hw]
  unfold Oper.wp execOp
  simp only [ho, hx, hy, Sem.run_bind, Result.andThen_ok, run_storeAt_within w g off ty t cur cells hg hf hi h1]
  exact h
end
end Go.Proofs.YtnhondkdkjehaaaGreat
namespace Go.Proofs.YtnhondkdkjehaaaGreat
open Go.RowKit

theorem Tryz.byteInfo : (Tryz.prog.info? 5).map (fun i => (i.zero, i.size, i.bytes)) = some (some (.int .u8 0), 1, 1) := by kernel_rfl

theorem grown_of_below {w w' : World} (h : Below w.heap.size w w') (row : Option Nat) : w.grownBy w' row := ⟨h.os, h.tape, h.output, h.size, fun k hk _ => h.block k hk⟩

/-- A row of bytes of the call's own. -/
def Own (w : World) (base : Nat) (v : Value) (l : List UInt8) : Prop := w.ownsRow base 5 1 v l.length (bc l)
section
variable {w w' : World} {base : Nat} {v : Value} {l : List UInt8}
theorem Own.nil (w : World) (base : Nat) : Own w base (.slice none 0 0) [] := World.ownsRow_nil w base _ 1
theorem Own.changed (h : Own w base v l) (hg : w.grownBy w' v.ownBlock) (hb : base ≤ w.heap.size) : Below base w w' :=
  (Below.refl base w).grown hg hb (fun k hk => (World.ownsRow.lt h k hk).1)
theorem Own.below (h : Own w base v l) (hb : Below w.heap.size w w') : Own w' base v l :=
  World.ownsRow.kept h (grown_of_below hb none) (by cases hv : v.ownBlock <;> simp)
theorem Own.grown {g : Nat} (h : Own w base v l) (hb : w.grownBy w' (some g)) (hne : v.ownBlock ≠ some g) : Own w' base v l := World.ownsRow.kept h hb (.inr hne)
theorem Own.ne {g : Nat} (h : Own w base v l) (hg : g < base) : v.ownBlock ≠ some g := fun e => by
  have := (World.ownsRow.lt h g e).1
  omega
theorem Own.drew (h : Own w base v l) : Own w.drew base v l := h
theorem Own.lies (h : Own w base v l) : ∃ A c, v = .slice A l.length c ∧ Lies w (fun _ => True) A l.length c (bc l) := by
  have hlt := World.ownsRow.lt h
  rcases h.2 with ⟨hv, hn⟩ | ⟨g, cap, cur, hv, _, _, hnc, _⟩
  · have hl : l = [] := List.eq_nil_of_length_eq_zero hn
    subst hl
    exact ⟨none, 0, hv, Lies.nil _ _⟩
  · subst hv
    exact ⟨_, cap, rfl, bc_length l, hnc, fun _ => ⟨⟨g, 0, none⟩, rfl, trivial, (hlt g rfl).2, fun j u hu => World.ownsRow.cells h (g := g) rfl j u hu⟩⟩
end

/-- 'append(all, b...)', at the operation. -/
theorem wpList_bytes {ops : Array Oper} {rest : List Oper} {o : Oper} {a : Act} {Q : Exit → Act → World → Prop} (w : World) (s x : Operand) (hgd : o.guard = none)
    (hop : o.op = .call { callee := .builtin .append, args := #[s, x], argTypes := #[49, 49] })
    {N : Nat → Prop} (base : Nat) (v : Value) (l : List UInt8) (A : Option Addr) (m c : Nat) (news : List UInt8) (hs : a.eval s = v) (hx : a.eval x = .slice A m c) (hown : Own w base v l) (hl : Lies w N A m c (bc news)) (hnil : A = none → c = 0)
    (hz : l.length + news.length ≤ 8589934592) (hb : base ≤ w.heap.size)
    (K : ∀ v' w', Own w' base v' (l ++ news) → w.grownBy w' v.ownBlock → wpList Tryz.prog ops Q rest (a.put o.dst v') w') : wpList Tryz.prog ops Q (o :: rest) a w := by
  obtain ⟨i0, hi, hz0, hz1, hz2⟩ := info_parts Tryz.byteInfo
  have hm : news.length = m := by rw [← bc_length]; exact hl.len
  rcases A with _ | ad
  · have hc := hnil rfl
    have hle := hl.le
    obtain rfl : m = 0 := by omega
    subst hc
    obtain rfl : news = [] := List.eq_nil_of_length_eq_zero hm
    refine wpList_append_own_none hgd s x 49 hop base 5 i0 1 Tryz.underlying49 hi v l.length (bc l) hs hown hx ?_
    refine K v w ?_ (grown_refl w _)
    rw [List.append_nil]
    exact hown
  · refine wpList_append_own _ hgd s x 49 hop base 5 i0 (.int .u8 0) 1 1 Tryz.underlying49 hi hz0 hz1 hz2 rfl (by decide) v l.length (bc l) hs hown ad m c (bc news) hx (by rw [bc_length, hm, Nat.mul_one])
      (fun j u hu => ?_) (bc_one news) (by unfold maxLen; omega) (by omega) hb ?_
    · have hj : 0 < m := by
        have := (List.getElem?_eq_some_iff.1 hu).1
        rw [bc_length] at this
        omega
      obtain ⟨ad', he, _, _, h4⟩ := hl.2.2 hj
      obtain rfl := Option.some.inj he
      exact h4 j u hu
    · intro v' w' h1 h2 _
      refine K v' w' ?_ h2
      unfold Own
      rw [List.length_append, bc_append, hm]
      exact h1

end Go.Proofs.YtnhondkdkjehaaaGreat
namespace Go.Proofs.YtnhondkdkjehaaaGreat
open Go.RowKit

theorem zero_made (n : Nat) : (madeCells (Value.int .u8 0).cells (n * 1)).toList = bc (List.replicate n 0) := by
  rw [show (Value.int .u8 0).cells = #[Value.int .u8 0] from rfl, Nat.mul_one, toList_madeCells_one]
  simp [bc]
theorem box_own {w : World} {base g n : Nat} {xs : List Value} (h : w.ownsRow base 5 1 (.slice (some ⟨g, 0, none⟩) n n) n xs) : Box w g 5 xs.toArray := by
  obtain ⟨h1, h2 | ⟨g', cap, cur, h2, _, h3, _, _, h4, h5⟩⟩ := h
  · simp at h2
  · simp at h2
    obtain ⟨rfl, rfl⟩ := h2
    rw [List.take_of_length_le (by rw [Array.length_toList, h4]; exact Nat.le_refl _)] at h5
    subst h5
    simpa [Box] using h3
theorem lies_box {w : World} {g : Nat} {l : List UInt8} {N : Nat → Prop} (h : Box w g 5 (bc l).toArray) (hN : N g) {n : Nat} (hn : l.length = n) : Lies w N (some ⟨g, 0, none⟩) n n (bc l) :=
  ⟨by rw [bc_length]; exact hn, Nat.le_refl _, fun _ => ⟨⟨g, 0, none⟩, rfl, hN, Box.lt h, fun j u hu => by rw [Addr.add_mid, Nat.zero_add, Box.cell h]; simpa using hu⟩⟩
theorem set_bc (l : List UInt8) (i : Nat) (z : UInt8) : (bc l).toArray.setIfInBounds i (.int .u8 (z.toNat : Int)) = (bc (l.set i z)).toArray := by
  rw [List.setIfInBounds_toArray]
  congr 1
  unfold bc
  rw [List.map_set]
theorem box_set {w : World} {g : Nat} {l : List UInt8} (h : Box w g 5 (bc l).toArray) (i : Nat) (z : UInt8) : Box (w.setCell ⟨g, i, none⟩ (.int .u8 (z.toNat : Int))) g 5 (bc (l.set i z)).toArray := by
  have h5 := Box.put h i (.int .u8 (z.toNat : Int))
  rwa [set_bc] at h5
theorem box_at {w : World} {g : Nat} {l : List UInt8} (h : Box w g 5 (bc l).toArray) {i : Nat} {u : UInt8} (hu : l[i]? = some u) : w.cell? ⟨g, i, none⟩ = some (.int .u8 (u.toNat : Int)) := by
  rw [Box.cell h]
  simp [bc, hu]
/-- A list laid out by a rule of the place. -/
def byRule (n : Nat) (f : Nat → UInt8) : List UInt8 := (List.range n).map f
theorem byRule_length (n : Nat) (f : Nat → UInt8) : (byRule n f).length = n := by simp [byRule]
theorem byRule_at (n : Nat) (f : Nat → UInt8) (i : Nat) (h : i < n) : (byRule n f)[i]? = some (f i) := by simp [byRule, h]
theorem byRule_set (n : Nat) (f h : Nat → UInt8) (k : Nat) (hf : ∀ i, i ≠ k → f i = h i) : (byRule n f).set k (h k) = byRule n h := by
  apply List.ext_getElem?
  intro i
  rw [List.getElem?_set]
  by_cases e : k = i
  · subst e
    by_cases hk : k < n <;> simp [byRule, hk]
  · by_cases hi : i < n <;> simp [byRule, hi, e, hf i (fun h => e h.symm)]
theorem byRule_zero (n : Nat) : byRule n (fun _ => 0) = List.replicate n 0 := by
  apply List.ext_getElem <;> simp [byRule]
end Go.Proofs.YtnhondkdkjehaaaGreat
namespace Go.Proofs.YtnhondkdkjehaaaGreat
open Go.RowKit

theorem string_eq (s : ByteArray) : (⟨s.data.toList.toArray⟩ : ByteArray) = s := by
  obtain ⟨⟨l⟩⟩ := s
  rfl
theorem str_append (l m : List UInt8) : (⟨l.toArray⟩ : ByteArray) ++ (⟨m.toArray⟩ : ByteArray) = ⟨(l ++ m).toArray⟩ := by
  rw [← string_eq (_ ++ _)]
  congr 1
theorem str_size (l : List UInt8) : (⟨l.toArray⟩ : ByteArray).size = l.length := by simp [ByteArray.size]
theorem strOf_bytes (l : List UInt8) : strOfNums (l.map fun b => (b.toNat : Int)) = ⟨l.toArray⟩ := by
  unfold strOfNums
  congr 2
  rw [List.map_map]
  conv => rhs; rw [← List.map_id l]
  apply List.map_congr_left
  intro b _
  simp

/-- A slice of bytes, as a text. -/
theorem conv_lies {w : World} {N : Nat → Prop} {A : Option Addr} {n c : Nat} {l : List UInt8} (h : Lies w N A n c (bc l)) : (convert 49 9 (.slice A n c)).run Tryz.prog w = .ok (.string ⟨l.toArray⟩) w := by
  have hn : n = l.length := by rw [← h.1, bc_length]
  have hm : bc l = (l.map fun b => (b.toNat : Int)).map (Value.int .u8) := by simp [bc]
  cases A with
  | none =>
    have h0 : n = 0 := by
      rcases Nat.eq_zero_or_pos n with h0 | h0
      · exact h0
      · obtain ⟨ad, h1, _⟩ := h.2.2 h0
        cases h1
    have : l = [] := List.eq_nil_of_length_eq_zero (by omega)
    subst this
    subst h0
    exact run_convert_bytes_nil w 49 5 Tryz.underlying49 Tryz.underlying5 0 c 9 Tryz.underlying9
  | some ad =>
    have hld : (loadCells ad n).run Tryz.prog w = .ok ((l.map fun b => (b.toNat : Int)).map (Value.int .u8)).toArray w := by
      rw [← hm, ← h.1]
      refine run_loadCells_list (P := Tryz.prog) w ad (bc l) (fun j u hu => ?_)
      have hj : j < (bc l).length := (List.getElem?_eq_some_iff.1 hu).1
      obtain ⟨ad', h1, _, _, h4⟩ := h.2.2 (by rw [← h.1]; omega)
      injection h1 with h1
      subst h1
      exact h4 j u hu
    rw [run_convert_bytes_string w 49 9 5 _ n c Tryz.underlying49 Tryz.underlying5 Tryz.underlying9, run_bytesToString w _ n c _ hld, foldl_push_bytes, ← strOf_bytes l]
    simp [strOfNums, ByteArray.empty, ByteArray.emptyWithCapacity]
    rfl
/-- A slice of one new byte, as a text. -/
theorem conv_byte (w : World) (c : Int) (b : UInt8) (h : c = (b.toNat : Int)) : (convert 49 9 (.slice (some ⟨w.heap.size, 0, none⟩) 1 1)).run Tryz.prog (w.alloc (.cells #[.int .u8 c] 5)) = .ok (.string ⟨[b].toArray⟩) (w.alloc (.cells #[.int .u8 c] 5)) := by
  subst h
  have hb := Box.made w 5 #[.int .u8 (b.toNat : Int)]
  exact conv_lies (N := fun _ => True) (l := [b]) ⟨rfl, Nat.le_refl _, fun _ => ⟨_, rfl, trivial, hb.lt, fun j u hu => by
    rw [Addr.add_mid, hb.cell, Nat.zero_add]
    simpa [bc] using hu⟩⟩
end Go.Proofs.YtnhondkdkjehaaaGreat
namespace Go.Proofs.YtnhondkdkjehaaaGreat
open Go.RowKit

/-- What a block reads as behind a copy of the first m of xs to place o. -/
def laidAt (cur : Array Value) (xs : List UInt8) (o m : Nat) : Array Value := (cur.toList.take o ++ bc (xs.take m) ++ cur.toList.drop (o + m)).toArray
theorem copy_gen {w : World} (ty : TypeId) (g o t t' n c : Nat) (A : Option Addr) (te : TypeId) (cur : Array Value) (hg : Box w g te cur) (N : Nat → Prop) (xs : List UInt8) (hx : Lies w N A n c (bc xs)) (hfit : o + t ≤ cur.size) :
    (Builtin.copy_ #[49, 49] ty #[.slice (some ⟨g, o, none⟩) t t', .slice A n c]).run Tryz.prog w = .ok (goInt ((min n t : Nat) : Int)) (w.setRow g (laidAt cur xs o (min n t))) := by
  have hxl : xs.length = n := by rw [← bc_length]; exact hx.1
  obtain ⟨m, hm⟩ : ∃ m, min n t = m := ⟨_, rfl⟩
  have hm1 : m ≤ n := by omega
  have hm2 : m ≤ t := by omega
  have hst := run_storeCells_at Tryz.prog g o te (bc (xs.take m)) 0 cur w hg (by rw [bc_length, List.length_take]; omega) (bc_one _)
  have hlm : (xs.take m).length = m := by rw [List.length_take]; omega
  simp only [Nat.add_zero, bc_length, hlm] at hst
  have hld : (Builtin.firstCells 1 m (.slice A n c)).run Tryz.prog w = .ok (bc (xs.take m)).toArray w := by
    rcases Nat.eq_zero_or_pos m with h0 | h0
    · subst h0
      cases A <;> simp [Builtin.firstCells, loadCells, loadCellsFrom, bc]
    · obtain ⟨ad, rfl, _, _, hr⟩ := hx.2.2 (by omega)
      have := run_loadCells_list (P := Tryz.prog) w ad (bc (xs.take m)) (fun j v hv => hr j v (by
        rw [← bc_take] at hv
        have hj := (List.getElem?_eq_some_iff.1 hv).1
        rw [List.length_take] at hj
        rwa [List.getElem?_take_of_lt (by omega)] at hv))
      rw [bc_length, hlm] at this
      simp [Builtin.firstCells, this]
  have hmin : n.min t = m := hm
  rw [hm]
  simp [Builtin.copy_, run_underlying Tryz.underlying49, Builtin.lenOf, Tryz.sizeOf5, hmin, hld, hst, laidAt]
theorem wpList_copy_gen {w : World} {ops : Array Oper} {rest : List Oper} {o : Oper} {a : Act} {Q : Exit → Act → World → Prop} (hgd : o.guard = none) (d s : Operand)
    (ho : o.op = .call { callee := .builtin .copy, args := #[d, s], argTypes := #[49, 49] })
    (g p t t' n c : Nat) (A : Option Addr) (hd : a.eval d = .slice (some ⟨g, p, none⟩) t t') (hs : a.eval s = .slice A n c)
    (te : TypeId) (cur : Array Value) (hg : Box w g te cur) (N : Nat → Prop) (xs : List UInt8) (hx : Lies w N A n c (bc xs)) (hfit : p + t ≤ cur.size)
    (h : ∀ w', Box w' g te (laidAt cur xs p (min n t)) → w.grownBy w' (some g) → wpList Tryz.prog ops Q rest (a.put o.dst (goInt ((min n t : Nat) : Int))) w') : wpList Tryz.prog ops Q (o :: rest) a w := by
  refine wpList_plain hgd fun K hK => ?_
  have hrun := copy_gen o.type g p t t' n c A te cur hg N xs hx hfit
  unfold Oper.wp
  simp [execOp, ho, resolve, invoke, builtin, hd, hs, hrun, Result.andThen]
  refine hK _ _ (h _ ?_ ?_)
  · exact setRow_heap w g _ _ te _ hg
  · exact grown_row (grown_refl w _) _
/-- The same, where the operation is one of a region that draws its order. -/
theorem wp_copy_gen {w : World} {o : Oper} {a : Act} {K : Act → World → Prop} {Q : Exit → Act → World → Prop} (d s : Operand)
    (ho : o.op = .call { callee := .builtin .copy, args := #[d, s], argTypes := #[49, 49] })
    (g p t t' n c : Nat) (A : Option Addr) (hd : a.eval d = .slice (some ⟨g, p, none⟩) t t') (hs : a.eval s = .slice A n c)
    (te : TypeId) (cur : Array Value) (hg : Box w g te cur) (N : Nat → Prop) (xs : List UInt8) (hx : Lies w N A n c (bc xs)) (hfit : p + t ≤ cur.size)
    (h : ∀ w', Box w' g te (laidAt cur xs p (min n t)) → w.grownBy w' (some g) → K (a.put o.dst (goInt ((min n t : Nat) : Int))) w') : o.wp Tryz.prog a w K Q := by
  have hrun := copy_gen o.type g p t t' n c A te cur hg N xs hx hfit
  unfold Oper.wp
  simp [execOp, ho, resolve, invoke, builtin, hd, hs, hrun, Result.andThen]
  refine h _ ?_ ?_
  · exact setRow_heap w g _ _ te _ hg
  · exact grown_row (grown_refl w _) _
theorem exec_copy {w : World} {o : Oper} {a : Act} (d s : Operand)
    (ho : o.op = .call { callee := .builtin .copy, args := #[d, s], argTypes := #[49, 49] })
    (g p t t' n c : Nat) (A : Option Addr) (hd : a.eval d = .slice (some ⟨g, p, none⟩) t t') (hs : a.eval s = .slice A n c)
    (te : TypeId) (cur : Array Value) (hg : Box w g te cur) (N : Nat → Prop) (xs : List UInt8) (hx : Lies w N A n c (bc xs)) (hfit : p + t ≤ cur.size) :
    (execOp a.eval o).run Tryz.prog w = .ok (.value (goInt ((min n t : Nat) : Int))) (w.setRow g (laidAt cur xs p (min n t))) := by
  have hrun := copy_gen o.type g p t t' n c A te cur hg N xs hx hfit
  simp [execOp, ho, resolve, invoke, builtin, hd, hs, hrun, Result.andThen]
end Go.Proofs.YtnhondkdkjehaaaGreat
namespace Go.Proofs.YtnhondkdkjehaaaGreat
open Go.RowKit

/-- A world in which all that lay in w lies as it did. -/
structure Grows (w : World) where
  val : World
  prop : Below w.heap.size w val
instance (w : World) : Inhabited (Grows w) := ⟨⟨w, Below.refl _ _⟩⟩

section
variable {P : Program} {ops : Array Oper} {Q : Exit → Act → World → Prop}
theorem wp_region_grows {id : Nat} {a : Act} {w : World} {l : List Oper} (hm : P.follows .mixedOrders = true) (hB : Region.lexB .any l.toArray = true)
    (h : wpQuiet P l.toArray (fun w' => ∃ p : Grows w, w' = p.val) (fun a' => ∀ w', (∃ p : Grows w, w' = p.val) → Q .normal a' w') l a) : (Code.region id l.toArray true).wp P Q a w :=
  wp_region_quiet (C := fun w' => ∃ p : Grows w, w' = p.val) hm hB ⟨⟨w.drew, (Below.refl _ w).drew⟩, rfl⟩ (by simpa using h)
/-- A load of many cells. -/
theorem wpQuiet_load {C : World → Prop} {K : Act → Prop} {o : Oper} {rest : List Oper} {a : Act} (hgd : o.guard = none) (ty : TypeId) (x : Operand) (ho : o.op = .load ty x) (b off : Nat) (hx : a.eval x = .pointer (some ⟨b, off, none⟩)) (cs : List Value) (ds : TypeDesc)
    (hc : ∀ w, C w → w.rangeAt b off cs) (hu : P.underlying ty = some ds) (hrow : ds.isRow = true) (hsz : (P.info? ty).map (·.size) = some cs.length) (h : wpQuiet P ops C K rest (a.put o.dst (.agg cs.toArray))) : wpQuiet P ops C K (o :: rest) a := by
  have hw : Region.wanted o (yielded ops a.tmps) = true := by simp [Region.wanted, hgd]
  simp only [wpQuiet, hw, if_true, Oper.quiet, Oper.quietAt]
  refine ⟨_, fun w hC => ?_, h⟩
  unfold execOp
  simp only [ho, hx, Sem.run_bind, Result.andThen_ok, run_loadAt_mid w b off ty cs ds (hc w hC) hu hrow hsz, Sem.run_pure]
  exact ⟨rfl, rfl⟩
/-- The same where a guard says yes. -/
theorem wpQuiet_load_yes {C : World → Prop} {K : Act → Prop} {o : Oper} {rest : List Oper} {a : Act} (hw : Region.wanted o (yielded ops a.tmps) = true) (ty : TypeId) (x : Operand) (ho : o.op = .load ty x) (b off : Nat) (hx : a.eval x = .pointer (some ⟨b, off, none⟩)) (cs : List Value) (ds : TypeDesc)
    (hc : ∀ w, C w → w.rangeAt b off cs) (hu : P.underlying ty = some ds) (hrow : ds.isRow = true) (hsz : (P.info? ty).map (·.size) = some cs.length) (h : wpQuiet P ops C K rest (a.put o.dst (.agg cs.toArray))) : wpQuiet P ops C K (o :: rest) a := by
  simp only [wpQuiet, hw, if_true, Oper.quiet, Oper.quietAt]
  refine ⟨_, fun w hC => ?_, h⟩
  unfold execOp
  simp only [ho, hx, Sem.run_bind, Result.andThen_ok, run_loadAt_mid w b off ty cs ds (hc w hC) hu hrow hsz, Sem.run_pure]
  exact ⟨rfl, rfl⟩
/-- An operation whose guard says no. -/
theorem wpQuiet_no {C : World → Prop} {K : Act → Prop} {o : Oper} {rest : List Oper} {a : Act} (hw : Region.wanted o (yielded ops a.tmps) = false) (h : wpQuiet P ops C K rest (a.put o.dst undef)) : wpQuiet P ops C K (o :: rest) a := by
  simp only [wpQuiet, hw]
  exact h
theorem Calls.grows {f : FuncId} {args : Array Value} {w : World} {p : Grows w} {v : Value} (h : Calls P f args p.val fun e w' => e = .returned v ∧ Below p.val.heap.size p.val w') :
    Calls P f args p.val fun e w'' => e = .returned v ∧ ∃ p' : Grows w, w'' = p'.val :=
  h.mono fun _ w' hh => ⟨hh.1, ⟨w', p.prop.trans (hh.2.mono p.prop.size)⟩, rfl⟩
theorem range_grows {w : World} {b off : Nat} {cs : List Value} (h : w.rangeAt b off cs) (hb : b < w.heap.size) : ∀ w', (∃ p : Grows w, w' = p.val) → w'.rangeAt b off cs := by
  rintro _ ⟨p, rfl⟩ j v hv
  exact (p.prop.cell (p := ⟨b, off + j, none⟩) hb).trans (h j v hv)
end
theorem below_grow (w : World) (q : Nat) (os : Array Obj) : Below w.heap.size w (Sort.grow (w.drewN q) os) :=
  ⟨rfl, rfl, rfl, by simp [Sort.grow, World.drewN], fun k hk => by
    rw [Sort.heap_grow_old (w.drewN q) os hk]
    rfl⟩
end Go.Proofs.YtnhondkdkjehaaaGreat
