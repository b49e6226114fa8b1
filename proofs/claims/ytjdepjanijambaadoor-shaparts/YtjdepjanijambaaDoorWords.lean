/-
  Words for memory that the contracts of package sha are stated in.
-/
import Derived.Test.YtjdepjanijambaaDoorPure
import Derived.Test.YtjdepjanijambaaDoorBase
import Derived.Deep.MidRow
import Derived.Deep.QuietTactic
namespace Go.Proofs.YtjdepjanijambaaDoor
open Go.RowKit

/-- n cells: bytes, words of 32 bits, words of 64 bits, that a function tells. -/
def u8s (B : Nat → Nat) (n : Nat) : List Value := (List.range n).map fun i => .int .u8 (B i : Int)
def u32s (B : Nat → Nat) (n : Nat) : List Value := (List.range n).map fun i => .int .u32 (B i : Int)
/-- Words l, and behind them noughts, 64 together. -/
def wcells (l : List Nat) : List Value := (List.range 64).map fun i => .int .u32 ((l.getD i 0 : Nat) : Int)
/-- The eight words of a state. -/
def s8s (s : S8) : List Value := [.int .u32 s.a, .int .u32 s.b, .int .u32 s.c, .int .u32 s.d, .int .u32 s.e, .int .u32 s.f, .int .u32 s.g, .int .u32 s.h]

theorem u8s_length (B : Nat → Nat) (n : Nat) : (u8s B n).length = n := by simp [u8s]
theorem u32s_length (B : Nat → Nat) (n : Nat) : (u32s B n).length = n := by simp [u32s]
theorem wcells_length (l : List Nat) : (wcells l).length = 64 := by simp [wcells]
theorem u8s_get (B : Nat → Nat) (n i : Nat) (h : i < n) : (u8s B n).toArray[i]? = some (.int .u8 (B i : Int)) := by simp [u8s, h]
theorem u32s_get (B : Nat → Nat) (n i : Nat) (h : i < n) : (u32s B n).toArray[i]? = some (.int .u32 (B i : Int)) := by simp [u32s, h]
theorem wcells_get (l : List Nat) (i : Nat) (h : i < 64) : (wcells l).toArray[i]? = some (.int .u32 ((l.getD i 0 : Nat) : Int)) := by simp [wcells, h]
theorem wcells_nil : (wcells []).toArray = #[.int .u32 0, .int .u32 0, .int .u32 0, .int .u32 0, .int .u32 0, .int .u32 0, .int .u32 0, .int .u32 0, .int .u32 0, .int .u32 0, .int .u32 0, .int .u32 0, .int .u32 0, .int .u32 0, .int .u32 0, .int .u32 0, .int .u32 0, .int .u32 0, .int .u32 0, .int .u32 0, .int .u32 0, .int .u32 0, .int .u32 0, .int .u32 0, .int .u32 0, .int .u32 0, .int .u32 0, .int .u32 0, .int .u32 0, .int .u32 0, .int .u32 0, .int .u32 0, .int .u32 0, .int .u32 0, .int .u32 0, .int .u32 0, .int .u32 0, .int .u32 0, .int .u32 0, .int .u32 0, .int .u32 0, .int .u32 0, .int .u32 0, .int .u32 0, .int .u32 0, .int .u32 0, .int .u32 0, .int .u32 0, .int .u32 0, .int .u32 0, .int .u32 0, .int .u32 0, .int .u32 0, .int .u32 0, .int .u32 0, .int .u32 0, .int .u32 0, .int .u32 0, .int .u32 0, .int .u32 0, .int .u32 0, .int .u32 0, .int .u32 0, .int .u32 0] := rfl
theorem wcells_snoc (l : List Nat) (x : Nat) (h : l.length < 64) : (wcells l).toArray.setIfInBounds l.length (.int .u32 (x : Int)) = (wcells (l ++ [x])).toArray := by
  apply Array.ext_getElem?
  intro i
  rw [Array.getElem?_setIfInBounds]
  by_cases hi : i < 64
  · rw [wcells_get _ i hi, wcells_get _ i hi]
    by_cases e : l.length = i
    · subst e
      simp [wcells, h, List.getD]
    · rw [if_neg e]
      by_cases hl : i < l.length
      · simp [List.getD, List.getElem?_append, hl]
      · have h1 : l[i]? = none := List.getElem?_eq_none (by omega)
        have h2 : (l ++ [x])[i]? = none := List.getElem?_eq_none (by simp; omega)
        simp [List.getD, h1, h2]
  · have h1 : ¬ i < (wcells l).toArray.size := by simp [wcells]; omega
    have h2 : ¬ i < (wcells (l ++ [x])).toArray.size := by simp [wcells]; omega
    rw [if_neg (by omega), Array.getElem?_eq_none (by omega), Array.getElem?_eq_none (by omega)]
theorem u8s_one (B : Nat → Nat) (n : Nat) : (u8s B n).toArray.all (·.oneCell') = true := all_oneCell_toArray (by intro v hv; simp [u8s] at hv; obtain ⟨i, _, rfl⟩ := hv; rfl)
theorem u32s_one (B : Nat → Nat) (n : Nat) : (u32s B n).toArray.all (·.oneCell') = true := all_oneCell_toArray (by intro v hv; simp [u32s] at hv; obtain ⟨i, _, rfl⟩ := hv; rfl)
theorem wcells_one (l : List Nat) : (wcells l).toArray.all (·.oneCell') = true := all_oneCell_toArray (by intro v hv; simp [wcells] at hv; obtain ⟨i, _, rfl⟩ := hv; rfl)
theorem s8s_one (s : S8) : (s8s s).toArray.all (·.oneCell') = true := all_oneCell_toArray (by intro v hv; simp only [s8s, List.mem_cons, List.not_mem_nil, or_false] at hv; rcases hv with rfl | rfl | rfl | rfl | rfl | rfl | rfl | rfl <;> rfl)

/-- The tables of the program lie where they were laid. -/
def Tabs (w : World) : Prop := w.rangeAt 0 0 (u32s (fun i => (Ktab.getD i 0)) 64) ∧ w.rangeAt 1 0 (s8s First)

theorem Box.range {w : World} {g : Nat} {t : TypeId} {cs : List Value} (h : Box w g t cs.toArray) : w.rangeAt g 0 cs := fun j v hv => by
  rw [h.cell, Nat.zero_add]
  simpa using hv
theorem rangeAt.below {B : Nat} {w w' : World} {g o : Nat} {cs : List Value} (h : w.rangeAt g o cs) (hb : Below B w w') (hg : g < B) : w'.rangeAt g o cs := fun j v hv => by
  rw [hb.cell (p := ⟨g, o + j, none⟩) hg]
  exact h j v hv
theorem Box.other {w : World} {g : Nat} {t : TypeId} {cs : Array Value} (h : Box w g t cs) (p : Addr) (u : Value) (hp : g ≠ p.block) : Box (w.setCell p u) g t cs := (Below.heap_setCell w p u g hp).trans h
theorem Box.drew {w : World} {g : Nat} {t : TypeId} {cs : Array Value} (h : Box w g t cs) : Box w.drew g t cs := h
theorem Box.drewN {w : World} {g : Nat} {t : TypeId} {cs : Array Value} (h : Box w g t cs) (n : Nat) : Box (w.drewN n) g t cs := h
theorem below_drewN' {B : Nat} {a b : World} (h : Below B a b) (k : Nat) : Below B a (b.drewN k) := ⟨h.os, h.tape, h.output, h.size, h.block⟩
theorem cell_drewN {w : World} {p : Addr} {v : Value} (n : Nat) (h : w.cell? p = some v) : (w.drewN n).cell? p = some v := h
theorem frozen_drewN {w : World} {p : Addr} {v : Bool} (n : Nat) (h : w.frozen? p = v) : (w.drewN n).frozen? p = v := h
theorem box1 (w : World) (o : Obj) (t : TypeId) (cs : Array Value) : Box ((w.alloc o).alloc (.cells cs t)) (w.heap.size + 1) t cs := by
  have := Box.made (w.alloc o) t cs
  simpa using this
theorem box2 (w : World) (o o' : Obj) (t : TypeId) (cs : Array Value) : Box (((w.alloc o).alloc o').alloc (.cells cs t)) (w.heap.size + 1 + 1) t cs := by
  have := Box.made ((w.alloc o).alloc o') t cs
  simpa using this
theorem below1 (w : World) (o : Obj) : Below w.heap.size w (w.alloc o) := (Below.refl _ _).alloc (Nat.le_refl _) _
theorem below2 (w : World) (o o' : Obj) : Below w.heap.size w ((w.alloc o).alloc o') := (below1 w o).alloc (by simp) _
theorem below3 (w : World) (o o' o'' : Obj) : Below w.heap.size w (((w.alloc o).alloc o').alloc o'') := (below2 w o o').alloc (by simp; omega) _
theorem Tabs.two {w : World} (h : Tabs w) : 1 < w.heap.size := block_lt_of_cell (h.2 0 _ rfl)
theorem Tabs.below {B : Nat} {w w' : World} (h : Tabs w) (hb : Below B w w') (hB : 1 < B) : Tabs w' := ⟨rangeAt.below h.1 hb (by omega), rangeAt.below h.2 hb hB⟩
theorem Tabs.grown {w w' : World} {g : Nat} (h : Tabs w) (hb : w.grownBy w' (some g)) (hg : 1 < g) : Tabs w' := by
  have h2 := h.two
  have e0 := hb.block 0 (by omega) (by intro e; injection e with e; omega)
  have e1 := hb.block 1 (by omega) (by intro e; injection e with e; omega)
  refine ⟨fun j v hv => ?_, fun j v hv => ?_⟩
  · have := h.1 j v hv
    simpa [World.cell?, e0] using this
  · have := h.2 j v hv
    simpa [World.cell?, e1] using this

end Go.Proofs.YtjdepjanijambaaDoor
