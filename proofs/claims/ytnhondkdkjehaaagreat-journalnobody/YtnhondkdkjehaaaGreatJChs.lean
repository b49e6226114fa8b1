/-
  Changes: slices of them that are read; what laying them comes to. No statement about the program stands here.
-/
import Derived.Test.YtnhondkdkjehaaaGreatJSm
namespace Go.Proofs.YtnhondkdkjehaaaGreat
open Go.RowKit

set_option linter.unusedVariables false
/-- A change, as it lies: a number, and a slice of bytes. -/
structure Ch where
  n : Int
  a : Option Addr
  l : Nat
  c : Nat
  b : List UInt8
/-- Its cells. -/
def chc (x : Ch) : List Value := [.int .i64 x.n, .slice x.a x.l x.c]
theorem chc_length (x : Ch) : (chc x).length = 2 := rfl
theorem chc_one (x : Ch) : ∀ v ∈ chc x, v.oneCell' = true := by simp [chc, Value.oneCell']
theorem chInfo : (Tryz.prog.info? 51).map (·.size) = some 2 := by kernel_rfl
/-- Its number is one; its bytes lie. -/
structure Ch.Ok (W : World) (N : Nat → Prop) (x : Ch) : Prop where
  low : -9223372036854775808 ≤ x.n
  high : x.n ≤ 9223372036854775807
  lies : Lies W N x.a x.l x.c (bc x.b)
/-- A slice that reads as changes, all in blocks that fit N. -/
def Chs (W : World) (N : Nat → Prop) (A : Option Addr) (n c : Nat) (xs : List Ch) : Prop :=
  xs.length = n ∧ n ≤ c ∧ (0 < n → ∃ b off, A = some ⟨b, off, none⟩ ∧ N b ∧ b < W.heap.size ∧ W.rangeAt b off (fl chc xs)) ∧ ∀ x ∈ xs, x.Ok W N
section
variable {w w' : World} {N N' K : Nat → Prop} {A : Option Addr} {n c : Nat} {xs : List Ch}
theorem Chs.at (h : Chs w N A n c xs) {j : Nat} {x : Ch} (hx : xs[j]? = some x) : ∃ b off, A = some ⟨b, off, none⟩ ∧ N b ∧ b < w.heap.size ∧ w.rangeAt b (off + j * 2) (chc x) ∧ x.Ok w N := by
  have hj : j < xs.length := (List.getElem?_eq_some_iff.1 hx).1
  obtain ⟨b, off, h1, h2, h3, h4⟩ := h.2.2.1 (by rw [← h.1]; omega)
  refine ⟨b, off, h1, h2, h3, fun i v hv => ?_, h.2.2.2 x (List.mem_of_getElem? hx)⟩
  have := h4 (j * 2 + i) v (fl_at chc_length xs j x hx i v hv)
  rwa [← Nat.add_assoc] at this
theorem Chs.keep (h : Chs w N A n c xs) (hk : ∀ p : Addr, N p.block → p.block < w.heap.size → w'.cell? p = w.cell? p) (hz : w.heap.size ≤ w'.heap.size) : Chs w' N A n c xs := by
  refine ⟨h.1, h.2.1, fun h0 => ?_, fun x hx => ?_⟩
  · obtain ⟨b, off, h1, h2, h3, h4⟩ := h.2.2.1 h0
    exact ⟨b, off, h1, h2, Nat.lt_of_lt_of_le h3 hz, fun j v hv => (hk ⟨b, off + j, none⟩ h2 h3).trans (h4 j v hv)⟩
  · obtain ⟨h1, h2, h3⟩ := h.2.2.2 x hx
    exact ⟨h1, h2, h3.keep hk hz⟩
theorem Chs.below (h : Chs w N A n c xs) (hb : Below w.heap.size w w') : Chs w' N A n c xs := h.keep (fun _ _ hp => hb.cell hp) hb.size
theorem Chs.touch (h : Chs w N A n c xs) (ht : Touch K w w') (hN : ∀ b, N b → ¬ K b) : Chs w' N A n c xs :=
  h.keep (fun p hp hk => World.cell?_of_block (w := w) (ht.block p.block hk (hN _ hp))) ht.size
theorem Chs.weak (h : Chs w N A n c xs) (hN : ∀ b, b < w.heap.size → N b → N' b) : Chs w N' A n c xs := by
  refine ⟨h.1, h.2.1, fun h0 => ?_, fun x hx => ?_⟩
  · obtain ⟨b, off, h1, h2, h3, h4⟩ := h.2.2.1 h0
    exact ⟨b, off, h1, hN _ h3 h2, h3, h4⟩
  · obtain ⟨h1, h2, h3⟩ := h.2.2.2 x hx
    exact ⟨h1, h2, h3.weak hN⟩
theorem Chs.nil (w : World) (N : Nat → Prop) : Chs w N none 0 0 [] := ⟨rfl, Nat.le_refl _, fun h => absurd h (Nat.lt_irrefl _), fun x hx => by simp at hx⟩
/-- The first of them. -/
theorem Chs.first (h : Chs w N A n c xs) {m : Nat} (hm : m ≤ n) : Chs w N A m c (xs.take m) := by
  refine ⟨by rw [List.length_take, h.1, Nat.min_eq_left hm], Nat.le_trans hm h.2.1, fun h0 => ?_, fun x hx => h.2.2.2 x (List.mem_of_mem_take hx)⟩
  obtain ⟨b, off, h1, h2, h3, h4⟩ := h.2.2.1 (by omega)
  refine ⟨b, off, h1, h2, h3, fun j v hv => ?_⟩
  rw [← fl_take chc_length, List.getElem?_take] at hv
  split at hv
  · exact h4 j v hv
  · cases hv
end
/-- Bytes as a device's block. -/
def bkOf (l : List UInt8) : Bk := if h : l.length = 256 then ⟨l, h⟩ else default
theorem bkOf_val {l : List UInt8} (h : l.length = 256) : (bkOf l).1 = l := by rw [bkOf, dif_pos h]
theorem bkOf_bk (x : Bk) : bkOf x.1 = x := by rw [bkOf, dif_pos x.2]
/-- A change in plain words: the block's number, and what it is to be. -/
abbrev Cg := Nat × Bk
def Ch.cg (x : Ch) : Cg := (x.n.toNat, bkOf x.b)
/-- Whether it is of a block that there is. -/
def Ch.fits (home : Int) (x : Ch) : Prop := (0 ≤ x.n ∧ x.n < home) ∧ x.b.length = 256
/-- What laying comes to: its answer, and the device. -/
def layTo (base : Nat) : List Cg → Dv → Int × Dv
  | [], D => if D.call.down = true then (17, D.call) else (0, D.call.flush)
  | x :: r, D => if D.call.down = true then (17, D.call) else layTo base r (D.call.write (base + x.1) x.2)
theorem layTo_len (base : Nat) : ∀ (cs : List Cg) (D : Dv), (layTo base cs D).2.bs.length = D.bs.length
  | [], D => by
    unfold layTo
    split <;> rfl
  | x :: r, D => by
    unfold layTo
    split
    · rfl
    · rw [layTo_len base r]
      show (D.bs.set _ _).length = _
      rw [List.length_set]
theorem layTo_ops (base : Nat) : ∀ (cs : List Cg) (D : Dv), (layTo base cs D).2.ops ≤ D.ops + cs.length + 1
  | [], D => by
    unfold layTo
    split
    · exact Nat.le_refl _
    · exact Nat.le_refl _
  | x :: r, D => by
    unfold layTo
    split
    · show D.ops + 1 ≤ _
      simp only [List.length_cons]
      omega
    · have := layTo_ops base r (D.call.write (base + x.1) x.2)
      have h : (D.call.write (base + x.1) x.2).ops = D.ops + 1 := rfl
      rw [h] at this
      simp only [List.length_cons]
      omega
end Go.Proofs.YtnhondkdkjehaaaGreat
