/-
  Words for memory, and plain mathematics, that the contracts of package lay are stated in. No statement about the program stands here.
  Words for slices that are read, whatever the program: laws on cuts of slices, and on storing many cells within a block.
  Taking operations of a drawn region one by one, in the text's order: those that run, and those whose guard says no.
  A region that draws its order, whose operations only read, and whose callees leave all that lay as it was: walked once, in the text's order.
  A row of bytes of the call's own that grows by 'append(all, b...)'.
  Texts: put together, cut, and made of bytes.
  Lists of lists of bytes: those that are read, and those that a call builds, row by row.
  A row of bytes that is made whole and then filled place by place.
  Rows of bytes in a block of the call's own, whose places are written.
  Rows of older memory, gathered in a row of the call's own: 'append' of matrices, slices.Clone.
  Rows of bytes that are written: each in a block of its own, another one each.
-/
import Derived.WalkKit
import Derived.WalkSpells
import Derived.Lib.AppendStr
import Derived.Lib.Strings
import Derived.Lib.Hide
import Derived.Laws.CopyRow
import Derived.Laws.CopyOwn
import Derived.Deep.MidRow
import Derived.Deep.QuietTactic
import Derived.Deep.RegionHeld3
import Derived.StillTailTactics
import Derived.Sort.Grow
import Derived.Test.YtpbkabgjpieggaaProg
import Derived.Laws.AppendOwn
import Derived.Laws.AppendOwnNone
import Derived.OwnWalk
import Derived.Laws.BytesArg
import Derived.Maps.AppendAt
import Derived.Laws.OwnMore

namespace Go.Proofs.Ytpbkabgjpieggaa
open Go.RowKit

/-- Block g is just the cells cs, of element type t; nothing of it is frozen. -/
def Box (w : World) (g : Nat) (t : TypeId) (cs : Array Value) : Prop := w.heap[g]? = some (.cells cs t (0, 0))

section
variable {w w' : World} {g : Nat} {t : TypeId} {cs : Array Value}
theorem Box.lt (h : Box w g t cs) : g < w.heap.size := by
  rcases Nat.lt_or_ge g w.heap.size with h1 | h1
  · exact h1
  · exfalso
    unfold Box at h
    rw [Array.getElem?_eq_none h1] at h
    cases h
theorem Box.cell (h : Box w g t cs) (i : Nat) : w.cell? ⟨g, i, none⟩ = cs[i]? := by
  unfold Box at h
  simp [World.cell?, h]
theorem Box.frozen (h : Box w g t cs) (i : Nat) : w.frozen? ⟨g, i, none⟩ = false := by
  unfold Box at h
  simp [World.frozen?, h]
theorem Box.made (w : World) (t : TypeId) (cs : Array Value) : Box (w.alloc (.cells cs t)) w.heap.size t cs := heap_alloc_new w _
theorem Box.alloc (h : Box w g t cs) (o : Obj) : Box (w.alloc o) g t cs := (Below.heap_alloc w o g h.lt).trans h
theorem Box.put (h : Box w g t cs) (i : Nat) (u : Value) : Box (w.setCell ⟨g, i, none⟩ u) g t (cs.setIfInBounds i u) := by
  unfold Box at h ⊢
  simp [World.setCell, Array.getElem?_modify, h]
theorem Box.below {B : Nat} (h : Box w g t cs) (hb : Below B w w') (hg : g < B) : Box w' g t cs := (hb.block g hg).trans h
theorem Box.grown {row : Option Nat} (h : Box w g t cs) (hb : w.grownBy w' row) (hg : some g ≠ row) : Box w' g t cs := (hb.block g h.lt hg).trans h
/-- A row of the call's own, of another element type, lies elsewhere. -/
theorem Box.apart (h : Box w g t cs) {base : Nat} {e : TypeId} {size n : Nat} {v : Value} {xs : List Value} (ho : w.ownsRow base e size v n xs) (hne : e ≠ t) : v.ownBlock ≠ some g := by
  rcases ho.2 with ⟨rfl, _⟩ | ⟨g', cap, cur, rfl, _, hh, _⟩
  · simp [Value.ownBlock]
  · intro he
    have hgg : g' = g := by simpa [Value.ownBlock] using he
    subst hgg
    unfold Box at h
    rw [h] at hh
    injection hh with hh
    injection hh with _ ht
    exact hne ht.symm
end

section
variable {a b c : World}
theorem grown_refl (a : World) (row : Option Nat) : a.grownBy a row := ⟨rfl, rfl, rfl, Nat.le_refl _, fun _ _ _ => rfl⟩
theorem grown_set {g : Nat} (h : a.grownBy b (some g)) (i : Nat) (u : Value) : a.grownBy (b.setCell ⟨g, i, none⟩ u) (some g) :=
  ⟨h.os, h.tape, h.output, by simpa [World.setCell] using h.size, fun k hk hne => (Below.heap_setCell b _ u k (fun e => hne (by rw [e]))).trans (h.block k hk hne)⟩
theorem grown_below {row : Option Nat} (h : a.grownBy b row) (hb : Below b.heap.size b c) : a.grownBy c row :=
  ⟨hb.os.trans h.os, hb.tape.trans h.tape, hb.output.trans h.output, Nat.le_trans h.size hb.size, fun k hk hne => (hb.block k (Nat.lt_of_lt_of_le hk h.size)).trans (h.block k hk hne)⟩
/-- What only turns one block of the call's own turns nothing below. -/
theorem below_grown {B g : Nat} (h : Below B a b) (hg : b.grownBy c (some g)) (hB : B ≤ g) (hs : B ≤ b.heap.size) : Below B a c :=
  h.grown hg hs (fun k hk => by injection hk with hk; omega)
end

/-- The value of bytes, the highest first. -/
def beVal (l : List UInt8) : Nat := l.foldl (fun v b => v * 256 + b.toNat) 0
theorem beVal_nil : beVal [] = 0 := rfl
theorem beVal_snoc (l : List UInt8) (b : UInt8) : beVal (l ++ [b]) = beVal l * 256 + b.toNat := by simp [beVal, List.foldl_append]
theorem beVal_lt_from : ∀ (l : List UInt8) (v : Nat), l.foldl (fun v b => v * 256 + b.toNat) v < (v + 1) * 256 ^ l.length
  | [], v => by simp
  | b :: l, v => by
    have h := beVal_lt_from l (v * 256 + b.toNat)
    have hb := b.toNat_lt
    have h2 : (v * 256 + b.toNat + 1) * 256 ^ l.length ≤ ((v + 1) * 256) * 256 ^ l.length := Nat.mul_le_mul_right _ (by omega)
    rw [List.foldl_cons, List.length_cons, Nat.pow_succ, Nat.mul_comm (256 ^ l.length) 256, ← Nat.mul_assoc]
    omega
theorem beVal_lt (l : List UInt8) : beVal l < 256 ^ l.length := by
  have h := beVal_lt_from l 0
  simpa [beVal] using h

/-- What reading a number of bytes comes to: its error (0: none). -/
def numErr : List UInt8 → Int
  | [] => 10
  | h :: t => if 8 < h.toNat then 11 else if t.length < h.toNat then 10 else if 0 < h.toNat ∧ t.head? = some 0 then 11 else 0
/-- The number, where there is no error; what is left. -/
def numVal (l : List UInt8) : Nat := if numErr l = 0 then beVal ((l.drop 1).take (l.headD 0).toNat) else 0
def numRest (l : List UInt8) : List UInt8 := if numErr l = 0 then l.drop (1 + (l.headD 0).toNat) else []

end Go.Proofs.Ytpbkabgjpieggaa


namespace Go.Proofs.Ytpbkabgjpieggaa
open Go.RowKit

/-- Bytes as cells. -/
def bc (l : List UInt8) : List Value := l.map fun b => Value.int .u8 (b.toNat : Int)
theorem bc_append (l m : List UInt8) : bc (l ++ m) = bc l ++ bc m := by simp [bc]
theorem bc_length (l : List UInt8) : (bc l).length = l.length := by simp [bc]
theorem bc_take (l : List UInt8) (n : Nat) : (bc l).take n = bc (l.take n) := by simp [bc, List.map_take]
theorem bc_drop (l : List UInt8) (n : Nat) : (bc l).drop n = bc (l.drop n) := by simp [bc, List.map_drop]
theorem bc_one (l : List UInt8) : ∀ u ∈ bc l, u.oneCell' = true := by
  intro u hu
  simp only [bc, List.mem_map] at hu
  obtain ⟨b, _, rfl⟩ := hu
  rfl

theorem add_block (a : Addr) (n : Nat) : (a.add n).block = a.block := by
  unfold Addr.add
  split <;> rfl
theorem add_zero' (a : Addr) : a.add 0 = a := by simp [Addr.add]
theorem add_add' (a : Addr) (m n : Nat) : (a.add m).add n = a.add (m + n) := by
  unfold Addr.add
  by_cases hm : m = 0
  · subst hm
    simp
  · by_cases hn : n = 0
    · subst hn
      simp [hm]
    · have : ¬ m + n = 0 := by omega
      simp only [if_neg hm, if_neg hn, if_neg this, Nat.add_assoc]

/-- The slice (A, n, c) reads as the cells xs, in a block that is there and that fits N. -/
def Lies (w : World) (N : Nat → Prop) (A : Option Addr) (n c : Nat) (xs : List Value) : Prop :=
  xs.length = n ∧ n ≤ c ∧ (0 < n → ∃ ad, A = some ad ∧ N ad.block ∧ ad.block < w.heap.size ∧ ∀ j u, xs[j]? = some u → w.cell? (ad.add j) = some u)
/-- Where a cut from m on begins. -/
def cutA (A : Option Addr) (c m : Nat) : Option Addr := if c = m then A else A.map (·.add m)

section
variable {w w' : World} {N N' : Nat → Prop} {A : Option Addr} {n c : Nat} {xs : List Value}
theorem Lies.len (h : Lies w N A n c xs) : xs.length = n := h.1
theorem Lies.le (h : Lies w N A n c xs) : n ≤ c := h.2.1
theorem Lies.keep (h : Lies w N A n c xs) (hk : ∀ p : Addr, N p.block → p.block < w.heap.size → w'.cell? p = w.cell? p) (hz : w.heap.size ≤ w'.heap.size) : Lies w' N A n c xs := by
  refine ⟨h.1, h.2.1, fun hn => ?_⟩
  obtain ⟨ad, h1, h2, h3, h4⟩ := h.2.2 hn
  exact ⟨ad, h1, h2, Nat.lt_of_lt_of_le h3 hz, fun j u hu => (hk _ (by rw [add_block]; exact h2) (by rw [add_block]; exact h3)).trans (h4 j u hu)⟩
theorem Lies.below (h : Lies w N A n c xs) (hb : Below w.heap.size w w') : Lies w' N A n c xs := h.keep (fun _ _ hp => hb.cell hp) hb.size
theorem Lies.weak (h : Lies w N A n c xs) (hN : ∀ b, b < w.heap.size → N b → N' b) : Lies w N' A n c xs := by
  refine ⟨h.1, h.2.1, fun hn => ?_⟩
  obtain ⟨ad, h1, h2, h3, h4⟩ := h.2.2 hn
  exact ⟨ad, h1, hN _ h3 h2, h3, h4⟩
theorem Lies.drew (h : Lies w N A n c xs) : Lies w.drew N A n c xs := h
theorem Lies.drewN (h : Lies w N A n c xs) (k : Nat) : Lies (w.drewN k) N A n c xs := h
theorem Lies.grown {g : Nat} (h : Lies w N A n c xs) (hb : w.grownBy w' (some g)) (hN : ¬ N g) : Lies w' N A n c xs :=
  h.keep (fun p hp hl => World.cell?_of_block (w := w) (hb.block p.block hl (by intro e; injection e with e; exact hN (e ▸ hp)))) hb.size
theorem Lies.nil (w : World) (N : Nat → Prop) : Lies w N none 0 0 [] := ⟨rfl, Nat.le_refl _, fun h => absurd h (Nat.lt_irrefl _)⟩
theorem Lies.first (h : Lies w N A n c xs) {m : Nat} (hm : m ≤ n) : Lies w N A m c (xs.take m) := by
  refine ⟨by rw [List.length_take, h.1, Nat.min_eq_left hm], Nat.le_trans hm h.2.1, fun h0 => ?_⟩
  obtain ⟨ad, h1, h2, h3, h4⟩ := h.2.2 (by omega)
  refine ⟨ad, h1, h2, h3, fun j u hu => ?_⟩
  rw [List.getElem?_take] at hu
  split at hu
  · exact h4 j u hu
  · cases hu
theorem Lies.from (h : Lies w N A n c xs) (m : Nat) (hm : m ≤ n) : Lies w N (cutA A c m) (n - m) (c - m) (xs.drop m) := by
  refine ⟨by rw [List.length_drop, h.1], by have := h.2.1; omega, fun h0 => ?_⟩
  obtain ⟨ad, h1, h2, h3, h4⟩ := h.2.2 (by omega)
  have hc : ¬ c = m := by have := h.2.1; omega
  refine ⟨ad.add m, ?_, by rw [add_block]; exact h2, by rw [add_block]; exact h3, fun j u hu => ?_⟩
  · rw [cutA, if_neg hc, h1]
    rfl
  · rw [List.getElem?_drop] at hu
    rw [add_add']
    exact h4 _ u hu
theorem Lies.at (h : Lies w N A n c xs) {j : Nat} {u : Value} (hu : xs[j]? = some u) : ∃ b off, A = some ⟨b, off, none⟩ ∧ N b ∧ b < w.heap.size ∧ w.cell? ⟨b, off + j, none⟩ = some u := by
  have hj : j < xs.length := (List.getElem?_eq_some_iff.1 hu).1
  have hn : 0 < n := by rw [← h.1]; omega
  obtain ⟨⟨b, off, spot⟩, h1, h2, h3, h4⟩ := h.2.2 hn
  have h0 := h4 0 xs[0] (List.getElem?_eq_getElem (by omega))
  have hs : spot = none := by simpa [Addr.add] using World.cell?_spot h0
  subst hs
  refine ⟨b, off, h1, h2, h3, ?_⟩
  rw [← h4 j u hu]
  congr 1
  exact (Addr.add_mid b off j).symm
end

section
variable {P : Program}
theorem sizeOf_one {e : TypeId} (hi : (P.info? e).map (·.size) = some 1) (w : World) : (sizeOf e).run P w = .ok 1 w := by
  cases hq : P.info? e with
  | none => simp [hq] at hi
  | some i =>
    have : i.size = 1 := by simpa [hq] using hi
    simp [sizeOf, typeInfo, hq, this]
theorem elem_of {t e : TypeId} (ht : P.underlying t = some (.slice e)) : P.underlying t = some (.slice (P.elem t)) ∧ P.elem t = e := by
  have : P.elem t = e := by simp [Program.elem, ht]
  exact ⟨by rw [this]; exact ht, this⟩
/-- 'x[m:]'. -/
theorem sliceAt_from {t e : TypeId} (ht : P.underlying t = some (.slice e)) (hi : (P.info? e).map (·.size) = some 1) (k : IntKind) (A : Option Addr) (n c m : Nat) (h : m ≤ n) (w : World) :
    (Instr.sliceAt t (.slice A n c) (some (.int k (m : Int))) none none).run P w = .ok (.slice (cutA A c m) (n - m) (c - m)) w := by
  obtain ⟨h1, h2⟩ := elem_of ht
  rw [run_sliceAt_slice w t _ _ _ _ h1, run_slice_l w t A n c h1 k (m : Int) (by omega) (by omega), h2, sizeOf_one hi w]
  simp [Result.andThen, sliced, cutA]
/-- 'x[:m]'. -/
theorem sliceAt_to {t e : TypeId} (ht : P.underlying t = some (.slice e)) (hi : (P.info? e).map (·.size) = some 1) (k : IntKind) (A : Option Addr) (n c m : Nat) (h : m ≤ c) (w : World) :
    (Instr.sliceAt t (.slice A n c) none (some (.int k (m : Int))) none).run P w = .ok (.slice A m c) w := by
  obtain ⟨h1, h2⟩ := elem_of ht
  rw [run_sliceAt_slice w t _ _ _ _ h1, run_slice_h w t A n c h1 k (m : Int) (by omega) (by omega), h2, sizeOf_one hi w]
  have : (A.map fun a => a.add 0) = A := by cases A <;> simp [add_zero']
  simp [Result.andThen, sliced, this]
/-- 'x[m:j]'. -/
theorem sliceAt_part {t e : TypeId} (ht : P.underlying t = some (.slice e)) (hi : (P.info? e).map (·.size) = some 1) (k k' : IntKind) (A : Option Addr) (n c m j : Nat) (h : m ≤ j) (hj : j ≤ c) (w : World) :
    (Instr.sliceAt t (.slice A n c) (some (.int k (m : Int))) (some (.int k' (j : Int))) none).run P w = .ok (.slice (cutA A c m) (j - m) (c - m)) w := by
  obtain ⟨h1, h2⟩ := elem_of ht
  rw [run_sliceAt_slice w t _ _ _ _ h1, run_slice_lh w t A n c h1 k k' (m : Int) (j : Int) (by omega) (by omega) (by omega), h2, sizeOf_one hi w]
  simp [Result.andThen, sliced, cutA]

/-- Many cells at once into the middle of a block that is known whole. -/
theorem run_storeAt_within (w : World) (g o : Nat) (ty t : TypeId) (cur cells : Array Value) (hg : w.heap[g]? = some (.cells cur t (0, 0))) (hf : o + cells.size ≤ cur.size) (hi : (P.info? ty).map (·.size) = some cells.size) (h1 : cells.all (·.oneCell') = true) :
    (Instr.storeAt ty (.pointer (some ⟨g, o, none⟩)) (.agg cells)).run P w = .ok () (w.setRow g (cur.toList.take o ++ cells.toList ++ cur.toList.drop (o + cells.size)).toArray) := by
  have := run_storeCells_at P g o t cells.toList 0 cur w hg (by simpa using hf) (fun v hv => (Array.all_eq_true_iff_forall_mem.1 h1) v (by simpa using hv))
  cases hq : P.info? ty with
  | none => simp [hq] at hi
  | some i =>
    have hs : cells.size = i.size := by simp [hq] at hi; omega
    simp only [Nat.add_zero, Array.length_toList] at this
    simp [Instr.storeAt, Instr.sureAddr, storeVar, sizeOf, typeInfo, hq, Value.cells, hs] at this ⊢
    rw [this]
theorem wpList_store_within {ops : Array Oper} {rest : List Oper} {o : Oper} {a : Act} {w : World} {Q : Exit → Act → World → Prop} (hgd : o.guard = none) (ty : TypeId) (x y : Operand) (ho : o.op = .store ty x y)
    (g off : Nat) (cells : Array Value) (hx : a.eval x = .pointer (some ⟨g, off, none⟩)) (hy : a.eval y = .agg cells) (t : TypeId) (cur : Array Value) (hg : w.heap[g]? = some (.cells cur t (0, 0))) (hf : off + cells.size ≤ cur.size)
    (hi : (P.info? ty).map (·.size) = some cells.size) (h1 : cells.all (·.oneCell') = true)
    (h : wpList P ops Q rest (a.put o.dst undef) (w.setRow g (cur.toList.take off ++ cells.toList ++ cur.toList.drop (off + cells.size)).toArray)) : wpList P ops Q (o :: rest) a w :=
  wpList_plain hgd fun K hK => by
    unfold Oper.wp execOp
    simp only [ho, hx, hy, Sem.run_bind, Result.andThen_ok, run_storeAt_within w g off ty t cur cells hg hf hi h1]
    exact hK _ _ h
end

theorem grown_row {a b : World} {g : Nat} (h : a.grownBy b (some g)) (cs : Array Value) : a.grownBy (b.setRow g cs) (some g) :=
  ⟨h.os, h.tape, h.output, by rw [setRow_size]; exact h.size, fun k hk hne => (setRow_other b g k cs (fun e => hne (by rw [e]))).trans (h.block k hk hne)⟩
theorem grown_drew {a b : World} {row : Option Nat} (h : a.grownBy b row) : a.grownBy b.drew row := ⟨h.os, h.tape, h.output, h.size, h.block⟩
theorem grown_drewN {a b : World} {row : Option Nat} (h : a.grownBy b row) (n : Nat) : a.grownBy (b.drewN n) row := ⟨h.os, h.tape, h.output, h.size, h.block⟩
theorem grown_trans {a b c : World} {row : Option Nat} (h : a.grownBy b row) (h' : b.grownBy c row) : a.grownBy c row :=
  ⟨h'.os.trans h.os, h'.tape.trans h.tape, h'.output.trans h.output, Nat.le_trans h.size h'.size, fun k hk hne => (h'.block k (Nat.lt_of_lt_of_le hk h.size) hne).trans (h.block k hk hne)⟩

end Go.Proofs.Ytpbkabgjpieggaa


namespace Go.Proofs.Ytpbkabgjpieggaa

section
variable {P : Program} {ops : Array Oper} {Q : Exit → Act → World → Prop} {md : Region.Mode} {S : World → Prop}
theorem take_run (i d : Nat) {oi : Oper} {v : Value} {fuel : Nat} {listed : Array Bool} {a : Act} {w : World} (hi : ops[i]? = some oi) (hd : oi.dst = some d)
    (hs : Region.noSelect ops = true) (hf : Region.free md ops listed i = true) (hr : (Region.ready md ops listed).contains i = true)
    (hQ : ∀ c a w, Q (.panic c) (a.put (some d) v) w → Q (.panic c) a w) (hw : Region.wanted oi (yielded ops a.tmps) = true) (hy : ∀ w, S w → (execOp a.eval oi).run P w = .ok (.value v) w) (hS : S w)
    (h : wpAnyH P md ops Q S fuel (listed.setIfInBounds i true) (a.put (some d) v) w) : wpAnyH P md ops Q S (fuel + 1) listed a w := by
  rw [← hd] at hQ h
  exact wpAnyH_take hi hs hf hr hQ (Or.inl ⟨hw, hy⟩) hS h
theorem take_skip (i d : Nat) {oi : Oper} {fuel : Nat} {listed : Array Bool} {a : Act} {w : World} (hi : ops[i]? = some oi) (hd : oi.dst = some d)
    (hs : Region.noSelect ops = true) (hf : Region.free md ops listed i = true) (hr : (Region.ready md ops listed).contains i = true)
    (hQ : ∀ c a w, Q (.panic c) (a.put (some d) undef) w → Q (.panic c) a w) (hw : Region.wanted oi (yielded ops a.tmps) = false) (hS : S w)
    (h : wpAnyH P md ops Q S fuel (listed.setIfInBounds i true) (a.put (some d) undef) w) : wpAnyH P md ops Q S (fuel + 1) listed a w := by
  rw [← hd] at hQ h
  exact wpAnyH_take hi hs hf hr hQ (Or.inr ⟨hw, rfl⟩) hS h
/-- A load of many cells, out of the middle of a block. -/
theorem take_load (i d : Nat) (ty : TypeId) (x : Operand) (b o : Nat) (cs : List Value) (ds : TypeDesc) {oi : Oper} {fuel : Nat} {listed : Array Bool} {a : Act} {w : World} (hi : ops[i]? = some oi) (hd : oi.dst = some d) (ho : oi.op = .load ty x)
    (hs : Region.noSelect ops = true) (hf : Region.free md ops listed i = true) (hr : (Region.ready md ops listed).contains i = true)
    (hQ : ∀ c a w, Q (.panic c) (a.put (some d) (.agg cs.toArray)) w → Q (.panic c) a w) (hw : Region.wanted oi (yielded ops a.tmps) = true) (hx : a.eval x = .pointer (some ⟨b, o, none⟩)) (hc : ∀ w, S w → w.rangeAt b o cs)
    (hu : P.underlying ty = some ds) (hrow : ds.isRow = true) (hsz : (P.info? ty).map (·.size) = some cs.length) (hS : S w)
    (h : wpAnyH P md ops Q S fuel (listed.setIfInBounds i true) (a.put (some d) (.agg cs.toArray)) w) : wpAnyH P md ops Q S (fuel + 1) listed a w := by
  rw [← hd] at hQ h
  exact wpAnyH_take hi hs hf hr hQ (yieldsIf_load_mid hw ty x ho b o hx cs ds hc hu hrow hsz) hS h
/-- A load of many cells in a region whose first operations only read ('go_still_tail'). -/
theorem wpStill_load {w : World} {o : Oper} {rest : List Oper} {a : Act} {K : Act → Prop} (hgd : o.guard = none) (ty : TypeId) (x : Operand) (ho : o.op = .load ty x) (b off : Nat) (hx : a.eval x = .pointer (some ⟨b, off, none⟩)) (cs : List Value) (ds : TypeDesc)
    (hc : w.rangeAt b off cs) (hu : P.underlying ty = some ds) (hrow : ds.isRow = true) (hsz : (P.info? ty).map (·.size) = some cs.length) (h : wpStill P ops w K rest (a.put o.dst (.agg cs.toArray))) : wpStill P ops w K (o :: rest) a := by
  have hw : Region.wanted o (yielded ops a.tmps) = true := by simp [Region.wanted, hgd]
  simp only [wpStill, hw, if_true, Oper.still]
  unfold execOp
  simp only [ho, hx, Sem.run_bind, Result.andThen_ok, run_loadAt_mid w b off ty cs ds hc hu hrow hsz, Sem.run_pure]
  exact ⟨rfl, h⟩
/-- A load of many cells as one step of a drawn region. -/
theorem step_load_mid {o : Oper} {a : Act} {w : World} {K : Act → World → Prop} {E : Prop} (ty : TypeId) (x : Operand) (hgd : o.guard = none) (ho : o.op = .load ty x) (b off : Nat) (hx : a.eval x = .pointer (some ⟨b, off, none⟩)) (cs : List Value) (ds : TypeDesc)
    (hc : w.rangeAt b off cs) (hu : P.underlying ty = some ds) (hrow : ds.isRow = true) (hsz : (P.info? ty).map (·.size) = some cs.length) (h : K (a.put o.dst (.agg cs.toArray)) w) :
    if Region.wanted o (yielded ops a.tmps) = true then Oper.wp P o a w K Q else E := by
  have hw : Region.wanted o (yielded ops a.tmps) = true := by simp [Region.wanted, hgd]
  rw [if_pos hw]
  exact wp_load_mid ty x ho b off hx cs ds hc hu hrow hsz h
/-- A store of many cells into the middle of a block, as one step of a drawn region. -/
theorem step_store_within {o : Oper} {a : Act} {w : World} {K : Act → World → Prop} {E : Prop} (ty : TypeId) (x y : Operand) (hgd : o.guard = none) (ho : o.op = .store ty x y)
    (g off : Nat) (cells : Array Value) (hx : a.eval x = .pointer (some ⟨g, off, none⟩)) (hy : a.eval y = .agg cells) (t : TypeId) (cur : Array Value) (hg : w.heap[g]? = some (.cells cur t (0, 0))) (hf : off + cells.size ≤ cur.size)
    (hi : (P.info? ty).map (·.size) = some cells.size) (h1 : cells.all (·.oneCell') = true)
    (h : K (a.put o.dst undef) (w.setRow g (cur.toList.take off ++ cells.toList ++ cur.toList.drop (off + cells.size)).toArray)) :
    if Region.wanted o (yielded ops a.tmps) = true then Oper.wp P o a w K Q else E := by
  have hw : Region.wanted o (yielded ops a.tmps) = true := by simp [Region.wanted, hgd]
  rw [if_pos hw]
  unfold Oper.wp execOp
  simp only [ho, hx, hy, Sem.run_bind, Result.andThen_ok, run_storeAt_within w g off ty t cur cells hg hf hi h1]
  exact h
end
end Go.Proofs.Ytpbkabgjpieggaa


namespace Go.Proofs.Ytpbkabgjpieggaa
open Go.RowKit

/-- A world in which all that lay in w lies as it did. -/
structure Grows (w : World) where
  val : World
  prop : Below w.heap.size w val
instance (w : World) : Inhabited (Grows w) := ⟨⟨w, Below.refl _ _⟩⟩

section
variable {P : Program} {ops : Array Oper} {Q : Exit → Act → World → Prop}
theorem wp_region_grows {id : Nat} {a : Act} {w : World} {l : List Oper} (hm : P.follows .mixedOrders = true) (hB : Region.lexB .any l.toArray = true)
    (h : wpQuiet P l.toArray (fun w' => ∃ p : Grows w, w' = p.val) (fun a' => ∀ w', (∃ p : Grows w, w' = p.val) → Q .normal a' w') l a) : (Code.region id l.toArray true).wp P Q a w :=
  wp_region_quiet (C := fun w' => ∃ p : Grows w, w' = p.val) hm hB ⟨⟨w.drew, (Below.refl _ w).drew⟩, rfl⟩ (by simpa using h)
/-- A load of many cells. -/
theorem wpQuiet_load {C : World → Prop} {K : Act → Prop} {o : Oper} {rest : List Oper} {a : Act} (hgd : o.guard = none) (ty : TypeId) (x : Operand) (ho : o.op = .load ty x) (b off : Nat) (hx : a.eval x = .pointer (some ⟨b, off, none⟩)) (cs : List Value) (ds : TypeDesc)
    (hc : ∀ w, C w → w.rangeAt b off cs) (hu : P.underlying ty = some ds) (hrow : ds.isRow = true) (hsz : (P.info? ty).map (·.size) = some cs.length) (h : wpQuiet P ops C K rest (a.put o.dst (.agg cs.toArray))) : wpQuiet P ops C K (o :: rest) a := by
  have hw : Region.wanted o (yielded ops a.tmps) = true := by simp [Region.wanted, hgd]
  simp only [wpQuiet, hw, if_true, Oper.quiet, Oper.quietAt]
  refine ⟨_, fun w hC => ?_, h⟩
  unfold execOp
  simp only [ho, hx, Sem.run_bind, Result.andThen_ok, run_loadAt_mid w b off ty cs ds (hc w hC) hu hrow hsz, Sem.run_pure]
  exact ⟨rfl, rfl⟩
/-- The same where a guard says yes. -/
theorem wpQuiet_load_yes {C : World → Prop} {K : Act → Prop} {o : Oper} {rest : List Oper} {a : Act} (hw : Region.wanted o (yielded ops a.tmps) = true) (ty : TypeId) (x : Operand) (ho : o.op = .load ty x) (b off : Nat) (hx : a.eval x = .pointer (some ⟨b, off, none⟩)) (cs : List Value) (ds : TypeDesc)
    (hc : ∀ w, C w → w.rangeAt b off cs) (hu : P.underlying ty = some ds) (hrow : ds.isRow = true) (hsz : (P.info? ty).map (·.size) = some cs.length) (h : wpQuiet P ops C K rest (a.put o.dst (.agg cs.toArray))) : wpQuiet P ops C K (o :: rest) a := by
  simp only [wpQuiet, hw, if_true, Oper.quiet, Oper.quietAt]
  refine ⟨_, fun w hC => ?_, h⟩
  unfold execOp
  simp only [ho, hx, Sem.run_bind, Result.andThen_ok, run_loadAt_mid w b off ty cs ds (hc w hC) hu hrow hsz, Sem.run_pure]
  exact ⟨rfl, rfl⟩
/-- An operation whose guard says no. -/
theorem wpQuiet_no {C : World → Prop} {K : Act → Prop} {o : Oper} {rest : List Oper} {a : Act} (hw : Region.wanted o (yielded ops a.tmps) = false) (h : wpQuiet P ops C K rest (a.put o.dst undef)) : wpQuiet P ops C K (o :: rest) a := by
  simp only [wpQuiet, hw]
  exact h
theorem Calls.grows {f : FuncId} {args : Array Value} {w : World} {p : Grows w} {v : Value} (h : Calls P f args p.val fun e w' => e = .returned v ∧ Below p.val.heap.size p.val w') :
    Calls P f args p.val fun e w'' => e = .returned v ∧ ∃ p' : Grows w, w'' = p'.val :=
  h.mono fun _ w' hh => ⟨hh.1, ⟨w', p.prop.trans (hh.2.mono p.prop.size)⟩, rfl⟩
theorem range_grows {w : World} {b off : Nat} {cs : List Value} (h : w.rangeAt b off cs) (hb : b < w.heap.size) : ∀ w', (∃ p : Grows w, w' = p.val) → w'.rangeAt b off cs := by
  rintro _ ⟨p, rfl⟩ j v hv
  exact (p.prop.cell (p := ⟨b, off + j, none⟩) hb).trans (h j v hv)
end
theorem below_grow (w : World) (q : Nat) (os : Array Obj) : Below w.heap.size w (Sort.grow (w.drewN q) os) :=
  ⟨rfl, rfl, rfl, by simp [Sort.grow, World.drewN], fun k hk => by
    rw [Sort.heap_grow_old (w.drewN q) os hk]
    rfl⟩
end Go.Proofs.Ytpbkabgjpieggaa


namespace Go.Proofs.Ytpbkabgjpieggaa
open Go.RowKit

theorem Try.byteInfo : (Try.prog.info? 5).map (fun i => (i.zero, i.size, i.bytes)) = some (some (.int .u8 0), 1, 1) := by kernel_rfl

theorem grown_of_below {w w' : World} (h : Below w.heap.size w w') (row : Option Nat) : w.grownBy w' row := ⟨h.os, h.tape, h.output, h.size, fun k hk _ => h.block k hk⟩

/-- A row of bytes of the call's own. -/
def Own (w : World) (base : Nat) (v : Value) (l : List UInt8) : Prop := w.ownsRow base 5 1 v l.length (bc l)
section
variable {w w' : World} {base : Nat} {v : Value} {l : List UInt8}
theorem Own.nil (w : World) (base : Nat) : Own w base (.slice none 0 0) [] := World.ownsRow_nil w base _ 1
theorem Own.changed (h : Own w base v l) (hg : w.grownBy w' v.ownBlock) (hb : base ≤ w.heap.size) : Below base w w' :=
  (Below.refl base w).grown hg hb (fun k hk => (World.ownsRow.lt h k hk).1)
theorem Own.below (h : Own w base v l) (hb : Below w.heap.size w w') : Own w' base v l :=
  World.ownsRow.kept h (grown_of_below hb none) (by cases hv : v.ownBlock <;> simp)
theorem Own.grown {g : Nat} (h : Own w base v l) (hb : w.grownBy w' (some g)) (hne : v.ownBlock ≠ some g) : Own w' base v l := World.ownsRow.kept h hb (.inr hne)
theorem Own.ne {g : Nat} (h : Own w base v l) (hg : g < base) : v.ownBlock ≠ some g := fun e => by
  have := (World.ownsRow.lt h g e).1
  omega
theorem Own.drew (h : Own w base v l) : Own w.drew base v l := h
theorem Own.lies (h : Own w base v l) : ∃ A c, v = .slice A l.length c ∧ Lies w (fun _ => True) A l.length c (bc l) := by
  have hlt := World.ownsRow.lt h
  rcases h.2 with ⟨hv, hn⟩ | ⟨g, cap, cur, hv, _, _, hnc, _⟩
  · have hl : l = [] := List.eq_nil_of_length_eq_zero hn
    subst hl
    exact ⟨none, 0, hv, Lies.nil _ _⟩
  · subst hv
    exact ⟨_, cap, rfl, bc_length l, hnc, fun _ => ⟨⟨g, 0, none⟩, rfl, trivial, (hlt g rfl).2, fun j u hu => World.ownsRow.cells h (g := g) rfl j u hu⟩⟩
end

/-- 'append(all, b...)', at the operation. -/
theorem wpList_bytes {ops : Array Oper} {rest : List Oper} {o : Oper} {a : Act} {Q : Exit → Act → World → Prop} (w : World) (s x : Operand) (hgd : o.guard = none)
    (hop : o.op = .call { callee := .builtin .append, args := #[s, x], argTypes := #[31, 31] })
    {N : Nat → Prop} (base : Nat) (v : Value) (l : List UInt8) (A : Option Addr) (m c : Nat) (news : List UInt8) (hs : a.eval s = v) (hx : a.eval x = .slice A m c) (hown : Own w base v l) (hl : Lies w N A m c (bc news)) (hnil : A = none → c = 0)
    (hz : l.length + news.length ≤ 8589934592) (hb : base ≤ w.heap.size)
    (K : ∀ v' w', Own w' base v' (l ++ news) → w.grownBy w' v.ownBlock → wpList Try.prog ops Q rest (a.put o.dst v') w') : wpList Try.prog ops Q (o :: rest) a w := by
  obtain ⟨i0, hi, hz0, hz1, hz2⟩ := info_parts Try.byteInfo
  have hm : news.length = m := by rw [← bc_length]; exact hl.len
  rcases A with _ | ad
  · have hc := hnil rfl
    have hle := hl.le
    obtain rfl : m = 0 := by omega
    subst hc
    obtain rfl : news = [] := List.eq_nil_of_length_eq_zero hm
    refine wpList_append_own_none hgd s x 31 hop base 5 i0 1 Try.underlying31 hi v l.length (bc l) hs hown hx ?_
    refine K v w ?_ (grown_refl w _)
    rw [List.append_nil]
    exact hown
  · refine wpList_append_own _ hgd s x 31 hop base 5 i0 (.int .u8 0) 1 1 Try.underlying31 hi hz0 hz1 hz2 rfl (by decide) v l.length (bc l) hs hown ad m c (bc news) hx (by rw [bc_length, hm, Nat.mul_one])
      (fun j u hu => ?_) (bc_one news) (by unfold maxLen; omega) (by omega) hb ?_
    · have hj : 0 < m := by
        have := (List.getElem?_eq_some_iff.1 hu).1
        rw [bc_length] at this
        omega
      obtain ⟨ad', he, _, _, h4⟩ := hl.2.2 hj
      obtain rfl := Option.some.inj he
      exact h4 j u hu
    · intro v' w' h1 h2 _
      refine K v' w' ?_ h2
      unfold Own
      rw [List.length_append, bc_append, hm]
      exact h1

end Go.Proofs.Ytpbkabgjpieggaa


namespace Go.Proofs.Ytpbkabgjpieggaa
open Go.RowKit

theorem string_eq (s : ByteArray) : (⟨s.data.toList.toArray⟩ : ByteArray) = s := by
  obtain ⟨⟨l⟩⟩ := s
  rfl
theorem str_append (l m : List UInt8) : (⟨l.toArray⟩ : ByteArray) ++ (⟨m.toArray⟩ : ByteArray) = ⟨(l ++ m).toArray⟩ := by
  rw [← string_eq (_ ++ _)]
  congr 1
theorem str_size (l : List UInt8) : (⟨l.toArray⟩ : ByteArray).size = l.length := by simp [ByteArray.size]
theorem strOf_bytes (l : List UInt8) : strOfNums (l.map fun b => (b.toNat : Int)) = ⟨l.toArray⟩ := by
  unfold strOfNums
  congr 2
  rw [List.map_map]
  conv => rhs; rw [← List.map_id l]
  apply List.map_congr_left
  intro b _
  simp

/-- A slice of bytes, as a text. -/
theorem conv_lies {w : World} {N : Nat → Prop} {A : Option Addr} {n c : Nat} {l : List UInt8} (h : Lies w N A n c (bc l)) : (convert 31 9 (.slice A n c)).run Try.prog w = .ok (.string ⟨l.toArray⟩) w := by
  have hn : n = l.length := by rw [← h.1, bc_length]
  have hm : bc l = (l.map fun b => (b.toNat : Int)).map (Value.int .u8) := by simp [bc]
  cases A with
  | none =>
    have h0 : n = 0 := by
      rcases Nat.eq_zero_or_pos n with h0 | h0
      · exact h0
      · obtain ⟨ad, h1, _⟩ := h.2.2 h0
        cases h1
    have : l = [] := List.eq_nil_of_length_eq_zero (by omega)
    subst this
    subst h0
    exact run_convert_bytes_nil w 31 5 Try.underlying31 Try.underlying5 0 c 9 Try.underlying9
  | some ad =>
    have hld : (loadCells ad n).run Try.prog w = .ok ((l.map fun b => (b.toNat : Int)).map (Value.int .u8)).toArray w := by
      rw [← hm, ← h.1]
      refine run_loadCells_list (P := Try.prog) w ad (bc l) (fun j u hu => ?_)
      have hj : j < (bc l).length := (List.getElem?_eq_some_iff.1 hu).1
      obtain ⟨ad', h1, _, _, h4⟩ := h.2.2 (by rw [← h.1]; omega)
      injection h1 with h1
      subst h1
      exact h4 j u hu
    rw [run_convert_bytes_string w 31 9 5 _ n c Try.underlying31 Try.underlying5 Try.underlying9, run_bytesToString w _ n c _ hld, foldl_push_bytes, ← strOf_bytes l]
    simp [strOfNums, ByteArray.empty, ByteArray.emptyWithCapacity]
    rfl
/-- A slice of one new byte, as a text. -/
theorem conv_byte (w : World) (c : Int) (b : UInt8) (h : c = (b.toNat : Int)) : (convert 31 9 (.slice (some ⟨w.heap.size, 0, none⟩) 1 1)).run Try.prog (w.alloc (.cells #[.int .u8 c] 5)) = .ok (.string ⟨[b].toArray⟩) (w.alloc (.cells #[.int .u8 c] 5)) := by
  subst h
  have hb := Box.made w 5 #[.int .u8 (b.toNat : Int)]
  exact conv_lies (N := fun _ => True) (l := [b]) ⟨rfl, Nat.le_refl _, fun _ => ⟨_, rfl, trivial, hb.lt, fun j u hu => by
    rw [Addr.add_mid, hb.cell, Nat.zero_add]
    simpa [bc] using hu⟩⟩
end Go.Proofs.Ytpbkabgjpieggaa


namespace Go.Proofs.Ytpbkabgjpieggaa
open Go.RowKit

/-- A slice that reads as rows of bytes. -/
def Mtx (w : World) (A : Option Addr) (n c : Nat) (M : List (List UInt8)) : Prop :=
  M.length = n ∧ n ≤ c ∧ (0 < n → ∃ b off, A = some ⟨b, off, none⟩ ∧ b < w.heap.size ∧ ∀ (i : Nat) (l : List UInt8), M[i]? = some l → ∃ Ai ci, w.cell? ⟨b, off + i, none⟩ = some (.slice Ai l.length ci) ∧ Lies w (fun _ => True) Ai l.length ci (bc l))
section
variable {w w' : World} {A : Option Addr} {n c : Nat} {M : List (List UInt8)}
theorem Mtx.len (h : Mtx w A n c M) : M.length = n := h.1
theorem Mtx.le (h : Mtx w A n c M) : n ≤ c := h.2.1
theorem Mtx.below (h : Mtx w A n c M) (hb : Below w.heap.size w w') : Mtx w' A n c M := by
  refine ⟨h.1, h.2.1, fun h0 => ?_⟩
  obtain ⟨b, off, h1, h2, h3⟩ := h.2.2 h0
  refine ⟨b, off, h1, Nat.lt_of_lt_of_le h2 hb.size, fun i l hl => ?_⟩
  obtain ⟨Ai, ci, h4, h5⟩ := h3 i l hl
  exact ⟨Ai, ci, (hb.cell (p := ⟨b, off + i, none⟩) h2).trans h4, h5.below hb⟩
theorem Mtx.nil (w : World) (A : Option Addr) (c : Nat) : Mtx w A 0 c [] := ⟨rfl, Nat.zero_le _, fun h => absurd h (Nat.lt_irrefl _)⟩
theorem Mtx.row (h : Mtx w A n c M) {i : Nat} {l : List UInt8} (hl : M[i]? = some l) : ∃ b off Ai ci, A = some ⟨b, off, none⟩ ∧ b < w.heap.size ∧ w.cell? ⟨b, off + i, none⟩ = some (.slice Ai l.length ci) ∧ Lies w (fun _ => True) Ai l.length ci (bc l) := by
  have hi : i < M.length := (List.getElem?_eq_some_iff.1 hl).1
  obtain ⟨b, off, h1, h2, h3⟩ := h.2.2 (by rw [← h.1]; omega)
  obtain ⟨Ai, ci, h4, h5⟩ := h3 i l hl
  exact ⟨b, off, Ai, ci, h1, h2, h4, h5⟩
end

/-- A block of bytes. -/
def Nb (w : World) (b : Nat) : Prop := ∃ cur fz, w.heap[b]? = some (.cells cur 5 fz)
theorem Lies.nb {w w' : World} {A : Option Addr} {n c : Nat} {xs : List Value} (h : Lies w (Nb w) A n c xs) (hb : Below w.heap.size w w') : Lies w' (Nb w') A n c xs := by
  have h1 := h.below hb
  refine ⟨h1.1, h1.2.1, fun hn => ?_⟩
  obtain ⟨ad, e1, ⟨cur, fz, e2⟩, e3, e4⟩ := h.2.2 hn
  exact ⟨ad, e1, ⟨cur, fz, (hb.block _ e3).trans e2⟩, Nat.lt_of_lt_of_le e3 hb.size, fun j u hu => (hb.cell (by rw [add_block]; exact e3)).trans (e4 j u hu)⟩
theorem Lies.nb_grown {w w' : World} {A : Option Addr} {n c g : Nat} {xs : List Value} {cur : Array Value} {t : TypeId} (h : Lies w (Nb w) A n c xs) (hg : w.grownBy w' (some g)) (hgt : w.heap[g]? = some (.cells cur t (0, 0))) (ht : t ≠ 5) : Lies w' (Nb w') A n c xs := by
  refine ⟨h.1, h.2.1, fun hn => ?_⟩
  obtain ⟨ad, e1, ⟨cur', fz, e2⟩, e3, e4⟩ := h.2.2 hn
  have hne : ad.block ≠ g := fun e => by
    rw [e, hgt] at e2
    injection e2 with e2
    injection e2 with _ e2
    exact ht e2
  have hbl : w'.heap[ad.block]? = w.heap[ad.block]? := hg.block _ e3 (fun e => hne (Option.some.inj e))
  exact ⟨ad, e1, ⟨cur', fz, hbl.trans e2⟩, Nat.lt_of_lt_of_le e3 hg.size, fun j u hu => (World.cell?_of_block (w := w) (by rw [add_block]; exact hbl)).trans (e4 j u hu)⟩
theorem Own.liesN {w : World} {base : Nat} {v : Value} {l : List UInt8} (h : Own w base v l) : ∃ A c, v = .slice A l.length c ∧ Lies w (Nb w) A l.length c (bc l) := by
  have hlt := World.ownsRow.lt h
  rcases h.2 with ⟨hv, hn⟩ | ⟨g, cap, cur, hv, _, hh, hnc, _⟩
  · have hl : l = [] := List.eq_nil_of_length_eq_zero hn
    subst hl
    exact ⟨none, 0, hv, Lies.nil _ _⟩
  · subst hv
    exact ⟨_, cap, rfl, bc_length l, hnc, fun _ => ⟨⟨g, 0, none⟩, rfl, ⟨cur, _, hh⟩, (hlt g rfl).2, fun j u hu => World.ownsRow.cells h (g := g) rfl j u hu⟩⟩

/-- Rows that a call builds. -/
def Bld (w : World) (base : Nat) (v : Value) (M : List (List UInt8)) : Prop :=
  ∃ vals : List Value, w.ownsRow base 31 1 v vals.length vals ∧ vals.length = M.length ∧ ∀ (i : Nat) (l : List UInt8), M[i]? = some l → ∃ (Ai : Option Addr) (ci : Nat), vals[i]? = some (Value.slice Ai l.length ci) ∧ Lies w (Nb w) Ai l.length ci (bc l)
section
variable {w w' : World} {base : Nat} {v : Value} {M : List (List UInt8)}
theorem Bld.nil (w : World) (base : Nat) : Bld w base (.slice none 0 0) [] := ⟨[], World.ownsRow_nil w base _ 1, rfl, fun i l h => by simp at h⟩
theorem Bld.below (h : Bld w base v M) (hb : Below w.heap.size w w') : Bld w' base v M := by
  obtain ⟨vals, h1, h2, h3⟩ := h
  refine ⟨vals, World.ownsRow.kept h1 (grown_of_below hb none) (by cases hv : v.ownBlock <;> simp), h2, fun i l hl => ?_⟩
  obtain ⟨Ai, ci, h4, h5⟩ := h3 i l hl
  exact ⟨Ai, ci, h4, h5.nb hb⟩
theorem Bld.mtx (h : Bld w base v M) : ∃ A c, v = .slice A M.length c ∧ Mtx w A M.length c M := by
  obtain ⟨vals, h1, h2, h3⟩ := h
  have hlt := World.ownsRow.lt h1
  rcases h1.2 with ⟨hv, hn⟩ | ⟨g, cap, cur, hv, _, _, hnc, _⟩
  · have hl : M = [] := List.eq_nil_of_length_eq_zero (by omega)
    subst hl
    exact ⟨none, 0, hv, Mtx.nil _ _ _⟩
  · refine ⟨some ⟨g, 0, none⟩, cap, by rw [hv, h2], rfl, by omega, fun _ => ⟨g, 0, rfl, (hlt g (by rw [hv]; rfl)).2, fun i l hl => ?_⟩⟩
    obtain ⟨Ai, ci, h4, h5⟩ := h3 i l hl
    refine ⟨Ai, ci, ?_, h5.weak (fun _ _ _ => trivial)⟩
    subst hv
    have := World.ownsRow.cells h1 (g := g) rfl i _ h4
    rwa [Addr.add_mid] at this
end
theorem rowInfo : (Try.prog.info? 31).map (fun i => (i.zero, i.size, i.bytes)) = some (some (.slice none 0 0), 1, 24) := by kernel_rfl
/-- 'append(out, row)', at the operation. -/
theorem wpList_append_row {ops : Array Oper} {rest : List Oper} {o : Oper} {a : Act} {Q : Exit → Act → World → Prop} (w : World) (s x : Operand) (hgd : o.guard = none)
    (hop : o.op = .call { callee := .builtin .append, args := #[s, x], argTypes := #[22, 22] })
    (base : Nat) (v : Value) (M : List (List UInt8)) (A : Option Addr) (c : Nat) (l : List UInt8) (hs : a.eval s = v) (hx : a.eval x = .slice (some ⟨w.heap.size, 0, none⟩) 1 1) (hbl : Bld w base v M) (hl : Lies w (Nb w) A l.length c (bc l)) (hz : M.length ≤ 100000) (hb : base ≤ w.heap.size)
    (K : ∀ v' w', Bld w' base v' (M ++ [l]) → Below base w w' → wpList Try.prog ops Q rest (a.put o.dst v') w') : wpList Try.prog ops Q (o :: rest) a (w.alloc (.cells #[.slice A l.length c] 31)) := by
  obtain ⟨i0, hi, hz0, hz1, hz2⟩ := info_parts rowInfo
  have hb0 : Below w.heap.size w (w.alloc (.cells #[.slice A l.length c] 31)) := (Below.refl _ w).alloc (Nat.le_refl _) _
  obtain ⟨vals, h1, h2, h3⟩ := hbl.below hb0
  have hl0 := hl.nb hb0
  refine wpList_append_own _ hgd s x 22 hop base 31 i0 (.slice none 0 0) 1 24 Try.underlying22 hi hz0 hz1 hz2 rfl (by decide) v vals.length vals hs h1 ⟨w.heap.size, 0, none⟩ 1 1 [.slice A l.length c] hx rfl
    (cell_one_new w _ _) (by simp [Value.oneCell']) (by unfold maxLen; omega) (by omega) (by simp; omega) ?_
  intro v' w' r1 r2 _
  have hA : Below base w (w.alloc (.cells #[.slice A l.length c] 31)) := (Below.refl base w).alloc hb _
  have hlt := World.ownsRow.lt h1
  have keep : ∀ {A' : Option Addr} {n' c' : Nat} {xs : List Value}, Lies (w.alloc (.cells #[.slice A l.length c] 31)) (Nb _) A' n' c' xs → Lies w' (Nb w') A' n' c' xs := fun {A' n' c' xs} hh => by
    rcases h1.2 with ⟨hv, _⟩ | ⟨g, cap, cur, hv, _, hgt, _⟩
    · rw [hv] at r2
      have hbb : Below (w.alloc (.cells #[.slice A l.length c] 31)).heap.size (w.alloc (.cells #[.slice A l.length c] 31)) w' := (Below.refl _ _).grown r2 (Nat.le_refl _) (fun k hk => by cases hk)
      exact hh.nb hbb
    · rw [hv] at r2
      exact hh.nb_grown (g := g) r2 hgt (by decide)
  refine K v' w' ⟨vals ++ [.slice A l.length c], ?_, by simp [h2], fun i l' hl' => ?_⟩ (hA.trans ((Below.refl base _).grown r2 (by simp; omega) (fun k hk => (hlt k hk).1)))
  · rw [List.length_append]
    exact r1
  · rcases Nat.lt_or_ge i M.length with hi' | hi'
    · rw [List.getElem?_append_left hi'] at hl'
      obtain ⟨Ai, ci, h4, h5⟩ := h3 i l' hl'
      exact ⟨Ai, ci, by rw [List.getElem?_append_left (by omega)]; exact h4, keep h5⟩
    · rw [List.getElem?_append_right hi'] at hl'
      have hi0 : i - M.length = 0 := by
        have := (List.getElem?_eq_some_iff.1 hl').1
        simp at this
        omega
      rw [hi0] at hl'
      simp at hl'
      subst hl'
      refine ⟨A, c, ?_, keep hl0⟩
      rw [List.getElem?_append_right (by omega), show i - vals.length = 0 by omega]
      rfl
/-- One byte in a new block. -/
theorem lies_one (w : World) (u : UInt8) : Lies (w.alloc (.cells #[.int .u8 (u.toNat : Int)] 5)) (fun _ => True) (some ⟨w.heap.size, 0, none⟩) 1 1 (bc [u]) := by
  refine ⟨rfl, Nat.le_refl _, fun _ => ⟨_, rfl, trivial, by simp, fun j v hv => ?_⟩⟩
  exact cell_one_new w _ _ j v hv
end Go.Proofs.Ytpbkabgjpieggaa


namespace Go.Proofs.Ytpbkabgjpieggaa
open Go.RowKit

theorem zero_made (n : Nat) : (madeCells (Value.int .u8 0).cells (n * 1)).toList = bc (List.replicate n 0) := by
  rw [show (Value.int .u8 0).cells = #[Value.int .u8 0] from rfl, Nat.mul_one, toList_madeCells_one]
  simp [bc]
theorem box_own {w : World} {base g n : Nat} {xs : List Value} (h : w.ownsRow base 5 1 (.slice (some ⟨g, 0, none⟩) n n) n xs) : Box w g 5 xs.toArray := by
  obtain ⟨h1, h2 | ⟨g', cap, cur, h2, _, h3, _, _, h4, h5⟩⟩ := h
  · simp at h2
  · simp at h2
    obtain ⟨rfl, rfl⟩ := h2
    rw [List.take_of_length_le (by rw [Array.length_toList, h4]; exact Nat.le_refl _)] at h5
    subst h5
    simpa [Box] using h3
theorem lies_box {w : World} {g : Nat} {l : List UInt8} {N : Nat → Prop} (h : Box w g 5 (bc l).toArray) (hN : N g) {n : Nat} (hn : l.length = n) : Lies w N (some ⟨g, 0, none⟩) n n (bc l) :=
  ⟨by rw [bc_length]; exact hn, Nat.le_refl _, fun _ => ⟨⟨g, 0, none⟩, rfl, hN, Box.lt h, fun j u hu => by rw [Addr.add_mid, Nat.zero_add, Box.cell h]; simpa using hu⟩⟩
theorem set_bc (l : List UInt8) (i : Nat) (z : UInt8) : (bc l).toArray.setIfInBounds i (.int .u8 (z.toNat : Int)) = (bc (l.set i z)).toArray := by
  rw [List.setIfInBounds_toArray]
  congr 1
  unfold bc
  rw [List.map_set]
theorem box_set {w : World} {g : Nat} {l : List UInt8} (h : Box w g 5 (bc l).toArray) (i : Nat) (z : UInt8) : Box (w.setCell ⟨g, i, none⟩ (.int .u8 (z.toNat : Int))) g 5 (bc (l.set i z)).toArray := by
  have h5 := Box.put h i (.int .u8 (z.toNat : Int))
  rwa [set_bc] at h5
theorem box_at {w : World} {g : Nat} {l : List UInt8} (h : Box w g 5 (bc l).toArray) {i : Nat} {u : UInt8} (hu : l[i]? = some u) : w.cell? ⟨g, i, none⟩ = some (.int .u8 (u.toNat : Int)) := by
  rw [Box.cell h]
  simp [bc, hu]
/-- A list laid out by a rule of the place. -/
def byRule (n : Nat) (f : Nat → UInt8) : List UInt8 := (List.range n).map f
theorem byRule_length (n : Nat) (f : Nat → UInt8) : (byRule n f).length = n := by simp [byRule]
theorem byRule_at (n : Nat) (f : Nat → UInt8) (i : Nat) (h : i < n) : (byRule n f)[i]? = some (f i) := by simp [byRule, h]
theorem byRule_set (n : Nat) (f h : Nat → UInt8) (k : Nat) (hf : ∀ i, i ≠ k → f i = h i) : (byRule n f).set k (h k) = byRule n h := by
  apply List.ext_getElem?
  intro i
  rw [List.getElem?_set]
  by_cases e : k = i
  · subst e
    by_cases hk : k < n <;> simp [byRule, hk]
  · by_cases hi : i < n <;> simp [byRule, hi, e, hf i (fun h => e h.symm)]
theorem byRule_zero (n : Nat) : byRule n (fun _ => 0) = List.replicate n 0 := by
  apply List.ext_getElem <;> simp [byRule]
end Go.Proofs.Ytpbkabgjpieggaa


namespace Go.Proofs.Ytpbkabgjpieggaa
open Go.RowKit

theorem box_own' {w : World} {base g n : Nat} {t : TypeId} {xs : List Value} (h : w.ownsRow base t 1 (.slice (some ⟨g, 0, none⟩) n n) n xs) : Box w g t xs.toArray := by
  obtain ⟨h1, h2 | ⟨g', cap, cur, h2, _, h3, _, _, h4, h5⟩⟩ := h
  · simp at h2
  · simp at h2
    obtain ⟨rfl, rfl⟩ := h2
    rw [List.take_of_length_le (by rw [Array.length_toList, h4]; exact Nat.le_refl _)] at h5
    subst h5
    simpa [Box] using h3
theorem zero_rows (n : Nat) : (madeCells (Value.slice none 0 0).cells (n * 1)).toList = List.replicate n (.slice none 0 0) := by
  rw [show (Value.slice none 0 0).cells = #[Value.slice none 0 0] from rfl, Nat.mul_one, toList_madeCells_one]
theorem box_off {w : World} {g : Nat} {t : TypeId} {cs : Array Value} (h : Box w g t cs) {p : Addr} (hp : g ≠ p.block) (u : Value) : Box (w.setCell p u) g t cs := (Below.heap_setCell w p u g hp).trans h
theorem lies_set {w : World} {N : Nat → Prop} {A : Option Addr} {n c : Nat} {xs : List Value} (h : Lies w N A n c xs) {p : Addr} (hp : ¬ N p.block) (u : Value) : Lies (w.setCell p u) N A n c xs :=
  h.keep (fun q hq _ => by
    apply World.cell?_setCell_other
    intro e
    exact hp (by rw [e]; exact hq)) (by simp)
theorem lies_below {w w' : World} {N : Nat → Prop} {A : Option Addr} {n c B : Nat} {xs : List Value} (h : Lies w N A n c xs) (hb : Below B w w') (hN : ∀ b, N b → b < B) : Lies w' N A n c xs :=
  h.keep (fun _ hq _ => hb.cell (hN _ hq)) hb.size

/-- Block g is n places; the first ones are rows that read as M, in blocks that fit N. -/
def RowsN (w : World) (g n : Nat) (N : Nat → Prop) (M : List (List UInt8)) : Prop :=
  ∃ cur : List Value, Box w g 31 cur.toArray ∧ cur.length = n ∧ M.length ≤ n ∧ ∀ (i : Nat) (l : List UInt8), M[i]? = some l → ∃ (Ai : Option Addr) (ci : Nat), cur[i]? = some (Value.slice Ai l.length ci) ∧ Lies w N Ai l.length ci (bc l)
section
variable {w w' : World} {g n : Nat} {N N' : Nat → Prop} {M : List (List UInt8)}
theorem RowsN.lt (h : RowsN w g n N M) : g < w.heap.size := h.choose_spec.1.lt
theorem RowsN.le (h : RowsN w g n N M) : M.length ≤ n := h.choose_spec.2.2.1
theorem RowsN.below (h : RowsN w g n N M) (hb : Below w.heap.size w w') : RowsN w' g n N M := by
  obtain ⟨cur, h1, h2, h3, h4⟩ := h
  refine ⟨cur, h1.below hb h1.lt, h2, h3, fun i l hl => ?_⟩
  obtain ⟨Ai, ci, h5, h6⟩ := h4 i l hl
  exact ⟨Ai, ci, h5, h6.below hb⟩
theorem RowsN.weak (h : RowsN w g n N M) (hN : ∀ b, b < w.heap.size → N b → N' b) : RowsN w g n N' M := by
  obtain ⟨cur, h1, h2, h3, h4⟩ := h
  refine ⟨cur, h1, h2, h3, fun i l hl => ?_⟩
  obtain ⟨Ai, ci, h5, h6⟩ := h4 i l hl
  exact ⟨Ai, ci, h5, h6.weak hN⟩
theorem RowsN.off (h : RowsN w g n N M) {p : Addr} (hp : ¬ N p.block) (hg : g ≠ p.block) (u : Value) : RowsN (w.setCell p u) g n N M := by
  obtain ⟨cur, h1, h2, h3, h4⟩ := h
  refine ⟨cur, box_off h1 hg u, h2, h3, fun i l hl => ?_⟩
  obtain ⟨Ai, ci, h5, h6⟩ := h4 i l hl
  exact ⟨Ai, ci, h5, lies_set h6 hp u⟩
/-- A row is read. -/
theorem RowsN.row (h : RowsN w g n N M) {i : Nat} {l : List UInt8} (hl : M[i]? = some l) : ∃ (Ai : Option Addr) (ci : Nat), w.cell? ⟨g, i, none⟩ = some (.slice Ai l.length ci) ∧ Lies w N Ai l.length ci (bc l) := by
  obtain ⟨cur, h1, h2, h3, h4⟩ := h
  obtain ⟨Ai, ci, h5, h6⟩ := h4 i l hl
  exact ⟨Ai, ci, by rw [h1.cell]; simpa using h5, h6⟩
/-- Some place there. -/
theorem RowsN.place (h : RowsN w g n N M) {i : Nat} (hi : i < n) : (∃ v, w.cell? ⟨g, i, none⟩ = some v) ∧ w.frozen? ⟨g, i, none⟩ = false := by
  obtain ⟨cur, h1, h2, h3, h4⟩ := h
  refine ⟨⟨cur[i]'(by omega), ?_⟩, h1.frozen i⟩
  rw [h1.cell]
  simp
/-- A place behind them is written. -/
theorem RowsN.beyond (h : RowsN w g n N M) (hg : ¬ N g) {i : Nat} (hi : M.length ≤ i) (u : Value) : RowsN (w.setCell ⟨g, i, none⟩ u) g n N M := by
  obtain ⟨cur, h1, h2, h3, h4⟩ := h
  refine ⟨cur.set i u, ?_, by simpa using h2, h3, fun k l hl => ?_⟩
  · have := h1.put i u
    rwa [List.setIfInBounds_toArray] at this
  · obtain ⟨Ai, ci, h5, h6⟩ := h4 k l hl
    have := (List.getElem?_eq_some_iff.1 hl).1
    exact ⟨Ai, ci, by rw [List.getElem?_set_ne (by omega)]; exact h5, lies_set h6 hg _⟩
/-- A row is put behind. -/
theorem RowsN.push (h : RowsN w g n N M) (hg : ¬ N g) (hlt : M.length < n) {A : Option Addr} {c m : Nat} {l : List UInt8} (hm : l.length = m) (hl : Lies w N A m c (bc l)) : RowsN (w.setCell ⟨g, M.length, none⟩ (.slice A m c)) g n N (M ++ [l]) := by
  subst hm
  obtain ⟨cur, h1, h2, h3, h4⟩ := h
  refine ⟨cur.set M.length (.slice A l.length c), ?_, by simpa using h2, by simp; omega, fun i l' hl' => ?_⟩
  · have := h1.put M.length (.slice A l.length c)
    rwa [List.setIfInBounds_toArray] at this
  · rcases Nat.lt_or_ge i M.length with hi | hi
    · rw [List.getElem?_append_left hi] at hl'
      obtain ⟨Ai, ci, h5, h6⟩ := h4 i l' hl'
      exact ⟨Ai, ci, by rw [List.getElem?_set_ne (by omega)]; exact h5, lies_set h6 hg _⟩
    · rw [List.getElem?_append_right hi] at hl'
      have hi0 : i = M.length := by
        have := (List.getElem?_eq_some_iff.1 hl').1
        simp at this
        omega
      subst hi0
      simp at hl'
      subst hl'
      exact ⟨A, c, by rw [List.getElem?_set_self (by omega)], lies_set hl hg _⟩
/-- A row that stands there already is one more. -/
theorem RowsN.more (h : RowsN w g n N M) (hlt : M.length < n) {A : Option Addr} {c m : Nat} {l : List UInt8} (hm : l.length = m) (hc : w.cell? ⟨g, M.length, none⟩ = some (.slice A m c)) (hl : Lies w N A m c (bc l)) : RowsN w g n N (M ++ [l]) := by
  subst hm
  obtain ⟨cur, h1, h2, h3, h4⟩ := h
  refine ⟨cur, h1, h2, by simp; omega, fun i l' hl' => ?_⟩
  rcases Nat.lt_or_ge i M.length with hi | hi
  · rw [List.getElem?_append_left hi] at hl'
    exact h4 i l' hl'
  · rw [List.getElem?_append_right hi] at hl'
    have hi0 : i = M.length := by
      have := (List.getElem?_eq_some_iff.1 hl').1
      simp at this
      omega
    subst hi0
    simp at hl'
    subst hl'
    rw [h1.cell] at hc
    exact ⟨A, c, by simpa using hc, hl⟩
/-- A row is put in another one's place. -/
theorem RowsN.put (h : RowsN w g n N M) (hg : ¬ N g) {i : Nat} {A : Option Addr} {c m : Nat} {l : List UInt8} (hm : l.length = m) (hl : Lies w N A m c (bc l)) : RowsN (w.setCell ⟨g, i, none⟩ (.slice A m c)) g n N (M.set i l) := by
  subst hm
  obtain ⟨cur, h1, h2, h3, h4⟩ := h
  refine ⟨cur.set i (.slice A l.length c), ?_, by simpa using h2, by simpa using h3, fun k l' hl' => ?_⟩
  · have := h1.put i (.slice A l.length c)
    rwa [List.setIfInBounds_toArray] at this
  · by_cases hk : i = k
    · subst hk
      have hi : i < M.length := by
        have := (List.getElem?_eq_some_iff.1 hl').1
        simpa using this
      rw [List.getElem?_set_self hi] at hl'
      cases hl'
      exact ⟨A, c, by rw [List.getElem?_set_self (by omega)], lies_set hl hg _⟩
    · rw [List.getElem?_set_ne hk] at hl'
      obtain ⟨Ai, ci, h5, h6⟩ := h4 k l' hl'
      exact ⟨Ai, ci, by rw [List.getElem?_set_ne hk]; exact h5, lies_set h6 hg _⟩
theorem RowsN.mtx (h : RowsN w g n N M) {m c : Nat} (hm : M.length = m) (hc : m ≤ c) : Mtx w (some ⟨g, 0, none⟩) m c M := by
  refine ⟨hm, hc, fun _ => ⟨g, 0, rfl, h.lt, fun i l hl => ?_⟩⟩
  obtain ⟨Ai, ci, h5, h6⟩ := h.row hl
  exact ⟨Ai, ci, by rw [Nat.zero_add]; exact h5, h6.weak (fun _ _ _ => trivial)⟩
end
/-- A new block of n places. -/
theorem rows_made {w : World} {base g n : Nat} (N : Nat → Prop) (h : w.ownsRow base 31 1 (.slice (some ⟨g, 0, none⟩) n n) n (madeCells (Value.slice none 0 0).cells (n * 1)).toList) : RowsN w g n N [] := by
  rw [zero_rows] at h
  exact ⟨List.replicate n (.slice none 0 0), box_own' h, by simp, by simp, fun i l hl => by simp at hl⟩
/-- A matrix handed back. -/
def GivesM (w : World) (M : List (List UInt8)) (e : Ending) (w' : World) : Prop := ∃ A n c, e = .returned (.slice A n c) ∧ Mtx w' A n c M ∧ Below w.heap.size w w'
/-- A matrix made by a rule. -/
def matBy (rows cols : Nat) (F : Nat → Nat → UInt8) : List (List UInt8) := (List.range rows).map (fun i => byRule cols (F i))
theorem matBy_succ (k cols : Nat) (F : Nat → Nat → UInt8) : matBy (k + 1) cols F = matBy k cols F ++ [byRule cols (F k)] := by simp [matBy, List.range_succ]
theorem matBy_length (k cols : Nat) (F : Nat → Nat → UInt8) : (matBy k cols F).length = k := by simp [matBy]
theorem matBy_at (k cols : Nat) (F : Nat → Nat → UInt8) {i : Nat} (hi : i < k) : (matBy k cols F)[i]? = some (byRule cols (F i)) := by simp [matBy, hi]
end Go.Proofs.Ytpbkabgjpieggaa


namespace Go.Proofs.Ytpbkabgjpieggaa
open Go.RowKit

/-- Places whose rows lie in memory older than base. -/
def OldAt (w : World) (base : Nat) (vals : List Value) (M : List (List UInt8)) : Prop :=
  vals.length = M.length ∧ ∀ (i : Nat) (l : List UInt8), M[i]? = some l → ∃ (Ai : Option Addr) (ci : Nat), vals[i]? = some (Value.slice Ai l.length ci) ∧ Lies w (fun b => b < base) Ai l.length ci (bc l)
/-- Rows of older memory in a row of the call's own. -/
def RowsO (w : World) (base : Nat) (v : Value) (M : List (List UInt8)) : Prop := ∃ vals : List Value, w.ownsRow base 31 1 v vals.length vals ∧ OldAt w base vals M
section
variable {w w' : World} {base : Nat} {v : Value} {M X : List (List UInt8)} {vals news : List Value}
theorem OldAt.keep (h : OldAt w base vals M) (hb : Below base w w') : OldAt w' base vals M := by
  refine ⟨h.1, fun i l hl => ?_⟩
  obtain ⟨Ai, ci, h1, h2⟩ := h.2 i l hl
  exact ⟨Ai, ci, h1, lies_below h2 hb (fun _ hb => hb)⟩
theorem OldAt.append (h : OldAt w base vals M) (k : OldAt w base news X) : OldAt w base (vals ++ news) (M ++ X) := by
  refine ⟨by simp [h.1, k.1], fun i l hl => ?_⟩
  rcases Nat.lt_or_ge i M.length with hi | hi
  · rw [List.getElem?_append_left hi] at hl
    obtain ⟨Ai, ci, h1, h2⟩ := h.2 i l hl
    exact ⟨Ai, ci, by rw [List.getElem?_append_left (by rw [h.1]; exact hi)]; exact h1, h2⟩
  · rw [List.getElem?_append_right hi] at hl
    obtain ⟨Ai, ci, h1, h2⟩ := k.2 _ l hl
    exact ⟨Ai, ci, by rw [List.getElem?_append_right (by rw [h.1]; exact hi), h.1]; exact h1, h2⟩
theorem OldAt.one (h : OldAt w base vals M) : ∀ u ∈ vals, u.oneCell' = true := by
  intro u hu
  obtain ⟨i, hi⟩ := List.getElem?_of_mem hu
  have hlt := (List.getElem?_eq_some_iff.1 hi).1
  obtain ⟨l, hl⟩ : ∃ l, M[i]? = some l := ⟨_, List.getElem?_eq_getElem (by rw [← h.1]; exact hlt)⟩
  obtain ⟨Ai, ci, h1, _⟩ := h.2 i l hl
  rw [h1] at hi
  cases hi
  rfl
theorem RowsO.below (h : RowsO w base v M) (hb : Below w.heap.size w w') (hbs : base ≤ w.heap.size) : RowsO w' base v M := by
  obtain ⟨vals, h1, h2⟩ := h
  exact ⟨vals, World.ownsRow.kept h1 (grown_of_below hb none) (by cases hv : v.ownBlock <;> simp), h2.keep (hb.mono hbs)⟩
theorem RowsO.made (w : World) (hb : base ≤ w.heap.size) : RowsO (w.alloc (.cells #[] 31)) base (.slice (some ⟨w.heap.size, 0, none⟩) 0 0) [] :=
  ⟨[], World.ownsRow_made w #[] 0 hb (Nat.zero_le _) rfl, rfl, fun i l h => by simp at h⟩
theorem RowsO.nil (w : World) (base : Nat) : RowsO w base (.slice none 0 0) [] := ⟨[], World.ownsRow_nil w base _ 1, rfl, fun i l h => by simp at h⟩
theorem RowsO.mtx (h : RowsO w base v M) : ∃ A c, v = .slice A M.length c ∧ Mtx w A M.length c M := by
  obtain ⟨vals, h1, h2, h3⟩ := h
  have hlt := World.ownsRow.lt h1
  rcases h1.2 with ⟨hv, hn⟩ | ⟨g, cap, cur, hv, _, _, hnc, _⟩
  · have hl : M = [] := List.eq_nil_of_length_eq_zero (by omega)
    subst hl
    exact ⟨none, 0, hv, Mtx.nil _ _ _⟩
  · refine ⟨some ⟨g, 0, none⟩, cap, by rw [hv, h2], rfl, by omega, fun _ => ⟨g, 0, rfl, (hlt g (by rw [hv]; rfl)).2, fun i l hl => ?_⟩⟩
    obtain ⟨Ai, ci, h4, h5⟩ := h3 i l hl
    refine ⟨Ai, ci, ?_, h5.weak (fun _ _ _ => trivial)⟩
    subst hv
    have := World.ownsRow.cells h1 (g := g) rfl i _ h4
    rwa [Addr.add_mid] at this
/-- As a block whose places are written. -/
theorem RowsO.rows (h : RowsO w base v M) (h0 : 0 < M.length) : ∃ g cap, v = .slice (some ⟨g, 0, none⟩) M.length cap ∧ base ≤ g ∧ M.length ≤ cap ∧ RowsN w g cap (fun b => b ≠ g) M := by
  obtain ⟨vals, h1, h2, h3⟩ := h
  rcases h1.2 with ⟨hv, hn⟩ | ⟨g, cap, cur, hv, hbg, hh, hnc, _, hcs, htk⟩
  · omega
  · refine ⟨g, cap, by rw [hv, h2], hbg, by omega, cur.toList, ?_, by simpa using hcs, by omega, fun i l hl => ?_⟩
    · simpa [Box] using hh
    · obtain ⟨Ai, ci, h4, h5⟩ := h3 i l hl
      refine ⟨Ai, ci, ?_, h5.weak (fun b _ hb => by omega)⟩
      rw [← htk, Nat.mul_one] at h4
      have hi := (List.getElem?_eq_some_iff.1 h4).1
      rw [List.getElem?_take_of_lt (by simp at hi; omega)] at h4
      exact h4
end
/-- The places of a matrix that is read. -/
theorem Mtx.old {w : World} {A : Option Addr} {n c : Nat} {M : List (List UInt8)} (h : Mtx w A n c M) {base : Nat} (hb : w.heap.size ≤ base) {ad : Addr} (hA : A = some ad) : ∃ vals, OldAt w base vals M ∧ ∀ (j : Nat) (u : Value), vals[j]? = some u → w.cell? (ad.add j) = some u := by
  subst hA
  refine ⟨(List.range n).map (fun i => (w.cell? (ad.add i)).getD undef), ⟨by simp [h.len], fun i l hl => ?_⟩, fun j u hu => ?_⟩
  · obtain ⟨b, off, Ai, ci, hA, _, hc, hl2⟩ := h.row hl
    cases hA
    have hi : i < n := by rw [← h.len]; exact (List.getElem?_eq_some_iff.1 hl).1
    refine ⟨Ai, ci, ?_, ?_⟩
    · simp [hi, Addr.add_mid, hc]
    · refine ⟨hl2.1, hl2.2.1, fun h0 => ?_⟩
      obtain ⟨ad', e1, _, e3, e4⟩ := hl2.2.2 h0
      exact ⟨ad', e1, Nat.lt_of_lt_of_le e3 hb, e3, e4⟩
  · have hj : j < n := by
      have := (List.getElem?_eq_some_iff.1 hu).1
      simpa using this
    obtain ⟨l, hl⟩ : ∃ l, M[j]? = some l := ⟨_, List.getElem?_eq_getElem (by rw [h.len]; exact hj)⟩
    obtain ⟨b, off, Ai, ci, hA, _, hc, _⟩ := h.row hl
    cases hA
    simp [hj, Addr.add_mid, hc] at hu
    subst hu
    rw [Addr.add_mid]
    exact hc
/-- 'append(all, rows...)', at the operation, the rows being older than base. -/
theorem wpList_append_old {ops : Array Oper} {rest : List Oper} {o : Oper} {a : Act} {Q : Exit → Act → World → Prop} (w : World) (s x : Operand) (hgd : o.guard = none)
    (hop : o.op = .call { callee := .builtin .append, args := #[s, x], argTypes := #[64, 64] })
    (base : Nat) (v : Value) (M X : List (List UInt8)) (ad : Addr) (m c : Nat) (news : List Value) (hs : a.eval s = v) (hx : a.eval x = .slice (some ad) m c) (hr : RowsO w base v M) (hn : OldAt w base news X) (hm : X.length = m) (hcell : ∀ (j : Nat) (u : Value), news[j]? = some u → w.cell? (ad.add j) = some u) (hz : M.length + X.length ≤ 100000) (hb : base ≤ w.heap.size)
    (K : ∀ v' w', RowsO w' base v' (M ++ X) → Below base w w' → wpList Try.prog ops Q rest (a.put o.dst v') w') : wpList Try.prog ops Q (o :: rest) a w := by
  obtain ⟨i0, hi, hz0, hz1, hz2⟩ := info_parts rowInfo
  obtain ⟨vals, h1, h2⟩ := hr
  have hlv := h2.1
  have hln := hn.1
  refine wpList_append_own _ hgd s x 64 hop base 31 i0 (.slice none 0 0) 1 24 Try.underlying64 hi hz0 hz1 hz2 rfl (by decide) v vals.length vals hs h1 ad m c news hx (by omega)
    hcell hn.one (by unfold maxLen; omega) (by omega) hb ?_
  intro v' w' r1 r2 _
  have hlt := World.ownsRow.lt h1
  have hB : Below base w w' := (Below.refl base w).grown r2 hb (fun k hk => (hlt k hk).1)
  refine K v' w' ⟨vals ++ news, ?_, (h2.append hn).keep hB⟩ hB
  rw [List.length_append, show news.length = m by omega]
  exact r1
/-- 'append(all, rows...)', at the operation, the rows being older than base. -/
theorem wpList_append_oldR {ops : Array Oper} {rest : List Oper} {o : Oper} {a : Act} {Q : Exit → Act → World → Prop} (w : World) (s x : Operand) (hgd : o.guard = none)
    (hop : o.op = .call { callee := .builtin .append, args := #[s, x], argTypes := #[22, 22] })
    (base : Nat) (v : Value) (M X : List (List UInt8)) (ad : Addr) (m c : Nat) (news : List Value) (hs : a.eval s = v) (hx : a.eval x = .slice (some ad) m c) (hr : RowsO w base v M) (hn : OldAt w base news X) (hm : X.length = m) (hcell : ∀ (j : Nat) (u : Value), news[j]? = some u → w.cell? (ad.add j) = some u) (hz : M.length + X.length ≤ 100000) (hb : base ≤ w.heap.size)
    (K : ∀ v' w', RowsO w' base v' (M ++ X) → Below base w w' → wpList Try.prog ops Q rest (a.put o.dst v') w') : wpList Try.prog ops Q (o :: rest) a w := by
  obtain ⟨i0, hi, hz0, hz1, hz2⟩ := info_parts rowInfo
  obtain ⟨vals, h1, h2⟩ := hr
  have hlv := h2.1
  have hln := hn.1
  refine wpList_append_own _ hgd s x 22 hop base 31 i0 (.slice none 0 0) 1 24 Try.underlying22 hi hz0 hz1 hz2 rfl (by decide) v vals.length vals hs h1 ad m c news hx (by omega)
    hcell hn.one (by unfold maxLen; omega) (by omega) hb ?_
  intro v' w' r1 r2 _
  have hlt := World.ownsRow.lt h1
  have hB : Below base w w' := (Below.refl base w).grown r2 hb (fun k hk => (hlt k hk).1)
  refine K v' w' ⟨vals ++ news, ?_, (h2.append hn).keep hB⟩ hB
  rw [List.length_append, show news.length = m by omega]
  exact r1
end Go.Proofs.Ytpbkabgjpieggaa


namespace Go.Proofs.Ytpbkabgjpieggaa
open Go.RowKit

/-- Block b begins with the bytes r. -/
def RowBlk (w : World) (b c : Nat) (r : List UInt8) : Prop := r.length ≤ c ∧ ∃ arr : Array Value, w.heap[b]? = some (.cells arr 5 (0, 0)) ∧ r.length ≤ arr.size ∧ ∀ (j : Nat) (u : UInt8), r[j]? = some u → arr[j]? = some (.int .u8 (u.toNat : Int))
section
variable {w w' : World} {b c : Nat} {r : List UInt8}
theorem RowBlk.lt (h : RowBlk w b c r) : b < w.heap.size := by
  obtain ⟨_, arr, h1, _⟩ := h
  exact (Array.getElem?_eq_some_iff.1 h1).1
theorem RowBlk.keep (h : RowBlk w b c r) (hk : w'.heap[b]? = w.heap[b]?) : RowBlk w' b c r := by
  obtain ⟨h0, arr, h1, h2, h3⟩ := h
  exact ⟨h0, arr, hk.trans h1, h2, h3⟩
theorem RowBlk.cell (h : RowBlk w b c r) {j : Nat} {u : UInt8} (hu : r[j]? = some u) : w.cell? ⟨b, j, none⟩ = some (.int .u8 (u.toNat : Int)) ∧ w.frozen? ⟨b, j, none⟩ = false := by
  obtain ⟨h0, arr, h1, h2, h3⟩ := h
  have hb : Box w b 5 arr := h1
  exact ⟨by rw [hb.cell]; exact h3 j u hu, hb.frozen j⟩
theorem RowBlk.set (h : RowBlk w b c r) (j : Nat) (z : UInt8) : RowBlk (w.setCell ⟨b, j, none⟩ (.int .u8 (z.toNat : Int))) b c (r.set j z) := by
  obtain ⟨h0, arr, h1, h2, h3⟩ := h
  have hb : Box w b 5 arr := h1
  refine ⟨by simpa using h0, _, hb.put j _, by simpa using h2, fun k u hu => ?_⟩
  by_cases hk : j = k
  · subst hk
    have hj : j < r.length := by
      have := (List.getElem?_eq_some_iff.1 hu).1
      simpa using this
    rw [List.getElem?_set_self hj] at hu
    cases hu
    rw [Array.getElem?_setIfInBounds_self_of_lt (by omega)]
  · rw [List.getElem?_set_ne hk] at hu
    rw [Array.getElem?_setIfInBounds_ne hk]
    exact h3 k u hu
theorem RowBlk.lies (h : RowBlk w b c r) : Lies w (fun _ => True) (some ⟨b, 0, none⟩) r.length c (bc r) :=
  ⟨bc_length r, h.1, fun _ => ⟨⟨b, 0, none⟩, rfl, trivial, h.lt, fun j u hu => by
    obtain ⟨x, hx, rfl⟩ : ∃ x, r[j]? = some x ∧ u = .int .u8 (x.toNat : Int) := by
      simp only [bc, List.getElem?_map] at hu
      cases hr : r[j]? with
      | none => rw [hr] at hu; cases hu
      | some x => rw [hr] at hu; exact ⟨x, rfl, by simpa using hu.symm⟩
    rw [Addr.add_mid, Nat.zero_add]
    exact (h.cell hx).1⟩⟩
end
theorem Own.blk {w : World} {base : Nat} {v : Value} {r : List UInt8} (h : Own w base v r) (h0 : 1 ≤ r.length) : ∃ b c, v = .slice (some ⟨b, 0, none⟩) r.length c ∧ base ≤ b ∧ RowBlk w b c r := by
  rcases h.2 with ⟨_, hn⟩ | ⟨g, cap, cur, hv, hbg, hh, hnc, _, hcs, htk⟩
  · omega
  · refine ⟨g, cap, hv, hbg, hnc, cur, hh, by omega, fun j u hu => ?_⟩
    have hj := (List.getElem?_eq_some_iff.1 hu).1
    have h2 : (bc r)[j]? = some (.int .u8 (u.toNat : Int)) := by simp [bc, hu]
    rw [← htk, Nat.mul_one, List.getElem?_take_of_lt hj] at h2
    simpa using h2

/-- The rows' blocks B, whose room is C: each another one. -/
structure Blks (w : World) (B C : Nat → Nat) (M : List (List UInt8)) : Prop where
  blk : ∀ (i : Nat) (r : List UInt8), M[i]? = some r → RowBlk w (B i) (C i) r
  inj : ∀ i j, i < M.length → j < M.length → B i = B j → i = j
section
variable {w w' : World} {B C : Nat → Nat} {M : List (List UInt8)}
theorem Blks.keep (h : Blks w B C M) (hk : ∀ i, i < M.length → w'.heap[B i]? = w.heap[B i]?) : Blks w' B C M :=
  ⟨fun i r hr => (h.blk i r hr).keep (hk i (List.getElem?_eq_some_iff.1 hr).1), h.inj⟩
theorem Blks.set (h : Blks w B C M) {i : Nat} {r : List UInt8} (hr : M[i]? = some r) (j : Nat) (z : UInt8) : Blks (w.setCell ⟨B i, j, none⟩ (.int .u8 (z.toNat : Int))) B C (M.set i (r.set j z)) := by
  have hi := (List.getElem?_eq_some_iff.1 hr).1
  refine ⟨fun k s hs => ?_, fun a b ha hb => h.inj a b (by simpa using ha) (by simpa using hb)⟩
  by_cases hk : i = k
  · subst hk
    rw [List.getElem?_set_self hi] at hs
    cases hs
    exact (h.blk i r hr).set j z
  · rw [List.getElem?_set_ne hk] at hs
    have hkl := (List.getElem?_eq_some_iff.1 hs).1
    exact (h.blk k s hs).keep (Below.heap_setCell _ _ _ _ (fun e => hk (h.inj i k hi hkl e.symm)))
end
/-- Block g's places are these rows. -/
def Tab (w : World) (g cap : Nat) (B C : Nat → Nat) (M : List (List UInt8)) : Prop := ∃ cur : List Value, Box w g 31 cur.toArray ∧ cur.length = cap ∧ M.length ≤ cap ∧ ∀ (i : Nat) (r : List UInt8), M[i]? = some r → cur[i]? = some (Value.slice (some ⟨B i, 0, none⟩) r.length (C i))
section
variable {w w' : World} {g cap : Nat} {B C : Nat → Nat} {M : List (List UInt8)}
theorem Tab.lt (h : Tab w g cap B C M) : g < w.heap.size := h.choose_spec.1.lt
theorem Tab.keep (h : Tab w g cap B C M) (hk : w'.heap[g]? = w.heap[g]?) : Tab w' g cap B C M := by
  obtain ⟨cur, h1, h2⟩ := h
  exact ⟨cur, hk.trans h1, h2⟩
theorem Tab.at (h : Tab w g cap B C M) {i : Nat} {r : List UInt8} (hr : M[i]? = some r) : w.cell? ⟨g, i, none⟩ = some (.slice (some ⟨B i, 0, none⟩) r.length (C i)) ∧ w.frozen? ⟨g, i, none⟩ = false := by
  obtain ⟨cur, h1, h2, h3, h4⟩ := h
  exact ⟨by rw [h1.cell]; simpa using h4 i r hr, h1.frozen i⟩
theorem Tab.same (h : Tab w g cap B C M) {N : List (List UInt8)} (hl : N.length = M.length) (hN : ∀ (i : Nat) (r s : List UInt8), M[i]? = some r → N[i]? = some s → r.length = s.length) : Tab w g cap B C N := by
  obtain ⟨cur, h1, h2, h3, h4⟩ := h
  refine ⟨cur, h1, h2, by omega, fun i s hs => ?_⟩
  have hi := (List.getElem?_eq_some_iff.1 hs).1
  have hr : M[i]? = some (M[i]'(by omega)) := List.getElem?_eq_getElem _
  rw [← hN i _ s hr hs]
  exact h4 i _ hr
/-- No row lies in g: it has another element type. -/
theorem Tab.sep (h : Tab w g cap B C M) (k : Blks w B C M) {i : Nat} (hi : i < M.length) : B i ≠ g := fun e => by
  obtain ⟨cur, h1, _⟩ := h
  obtain ⟨_, arr, h2, _⟩ := k.blk i _ (List.getElem?_eq_getElem hi)
  rw [e] at h2
  unfold Box at h1
  rw [h1] at h2
  injection h2 with h2
  injection h2 with _ h2
  exact absurd h2 (by decide)
/-- Two numbers are swapped. -/
def swp (a b i : Nat) : Nat := if i = a then b else if i = b then a else i
/-- Two rows are swapped. -/
theorem Tab.swap (h : Tab w g cap B C M) {a b : Nat} {ra rb : List UInt8} (ha : M[a]? = some ra) (hb : M[b]? = some rb) :
    Tab ((w.setCell ⟨g, a, none⟩ (.slice (some ⟨B b, 0, none⟩) rb.length (C b))).setCell ⟨g, b, none⟩ (.slice (some ⟨B a, 0, none⟩) ra.length (C a))) g cap (fun i => B (swp a b i)) (fun i => C (swp a b i)) ((M.set a rb).set b ra) := by
  obtain ⟨cur, h1, h2, h3, h4⟩ := h
  have hal := (List.getElem?_eq_some_iff.1 ha).1
  have hbl := (List.getElem?_eq_some_iff.1 hb).1
  refine ⟨(cur.set a (.slice (some ⟨B b, 0, none⟩) rb.length (C b))).set b (.slice (some ⟨B a, 0, none⟩) ra.length (C a)), ?_, by simpa using h2, by simpa using h3, fun i r hr => ?_⟩
  · have e1 := (h1.put a (.slice (some ⟨B b, 0, none⟩) rb.length (C b))).put b (.slice (some ⟨B a, 0, none⟩) ra.length (C a))
    rwa [List.setIfInBounds_toArray, List.setIfInBounds_toArray] at e1
  · by_cases hib : b = i
    · subst hib
      rw [List.getElem?_set_self (by simpa using hbl)] at hr
      cases hr
      rw [List.getElem?_set_self (by simp; omega)]
      have : swp a b b = a := by unfold swp; by_cases e : b = a <;> simp [e]
      simp only [this]
    · rw [List.getElem?_set_ne hib] at hr
      rw [List.getElem?_set_ne hib]
      by_cases hia : a = i
      · subst hia
        rw [List.getElem?_set_self hal] at hr
        cases hr
        rw [List.getElem?_set_self (by omega)]
        have : swp a b a = b := by unfold swp; simp
        simp only [this]
      · rw [List.getElem?_set_ne hia] at hr
        rw [List.getElem?_set_ne hia]
        have : swp a b i = i := by unfold swp; rw [if_neg (fun e => hia e.symm), if_neg (fun e => hib e.symm)]
        simp only [this]
        exact h4 i r hr
end
theorem Blks.swap {w : World} {B C : Nat → Nat} {M : List (List UInt8)} (h : Blks w B C M) {a b : Nat} {ra rb : List UInt8} (ha : M[a]? = some ra) (hb : M[b]? = some rb) : Blks w (fun i => B (swp a b i)) (fun i => C (swp a b i)) ((M.set a rb).set b ra) := by
  have hal := (List.getElem?_eq_some_iff.1 ha).1
  have hbl := (List.getElem?_eq_some_iff.1 hb).1
  refine ⟨fun i r hr => ?_, fun i j hi hj he => ?_⟩
  · by_cases hib : b = i
    · subst hib
      rw [List.getElem?_set_self (by simpa using hbl)] at hr
      cases hr
      have : swp a b b = a := by unfold swp; by_cases e : b = a <;> simp [e]
      simp only [this]
      exact h.blk a ra ha
    · rw [List.getElem?_set_ne hib] at hr
      by_cases hia : a = i
      · subst hia
        rw [List.getElem?_set_self hal] at hr
        cases hr
        have : swp a b a = b := by unfold swp; simp
        simp only [this]
        exact h.blk b rb hb
      · rw [List.getElem?_set_ne hia] at hr
        have : swp a b i = i := by unfold swp; rw [if_neg (fun e => hia e.symm), if_neg (fun e => hib e.symm)]
        simp only [this]
        exact h.blk i r hr
  · have hs : ∀ i, i < M.length → swp a b i < M.length := fun i hi => by
      unfold swp
      split
      · exact hbl
      · split <;> omega
    have hi' : i < M.length := by simpa using hi
    have hj' : j < M.length := by simpa using hj
    have e := h.inj _ _ (hs i hi') (hs j hj') he
    unfold swp at e
    split at e <;> split at e <;> first | omega | (split at e <;> first | omega | (split at e <;> omega))
end Go.Proofs.Ytpbkabgjpieggaa

