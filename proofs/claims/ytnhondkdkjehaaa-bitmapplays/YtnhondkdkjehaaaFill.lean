/-
  A row of bytes that is made whole and then filled place by place.
-/
import Derived.Test.YtnhondkdkjehaaaOwn
import Derived.Laws.OwnMore
namespace Go.Proofs.Ytnhondkdkjehaaa
open Go.RowKit

theorem zero_made (n : Nat) : (madeCells (Value.int .u8 0).cells (n * 1)).toList = bc (List.replicate n 0) := by
  rw [show (Value.int .u8 0).cells = #[Value.int .u8 0] from rfl, Nat.mul_one, toList_madeCells_one]
  simp [bc]
theorem box_own {w : World} {base g n : Nat} {xs : List Value} (h : w.ownsRow base 5 1 (.slice (some ⟨g, 0, none⟩) n n) n xs) : Box w g 5 xs.toArray := by
  obtain ⟨h1, h2 | ⟨g', cap, cur, h2, _, h3, _, _, h4, h5⟩⟩ := h
  · simp at h2
  · simp at h2
    obtain ⟨rfl, rfl⟩ := h2
    rw [List.take_of_length_le (by rw [Array.length_toList, h4]; exact Nat.le_refl _)] at h5
    subst h5
    simpa [Box] using h3
theorem lies_box {w : World} {g : Nat} {l : List UInt8} {N : Nat → Prop} (h : Box w g 5 (bc l).toArray) (hN : N g) {n : Nat} (hn : l.length = n) : Lies w N (some ⟨g, 0, none⟩) n n (bc l) :=
  ⟨by rw [bc_length]; exact hn, Nat.le_refl _, fun _ => ⟨⟨g, 0, none⟩, rfl, hN, Box.lt h, fun j u hu => by rw [Addr.add_mid, Nat.zero_add, Box.cell h]; simpa using hu⟩⟩
theorem set_bc (l : List UInt8) (i : Nat) (z : UInt8) : (bc l).toArray.setIfInBounds i (.int .u8 (z.toNat : Int)) = (bc (l.set i z)).toArray := by
  rw [List.setIfInBounds_toArray]
  congr 1
  unfold bc
  rw [List.map_set]
theorem box_set {w : World} {g : Nat} {l : List UInt8} (h : Box w g 5 (bc l).toArray) (i : Nat) (z : UInt8) : Box (w.setCell ⟨g, i, none⟩ (.int .u8 (z.toNat : Int))) g 5 (bc (l.set i z)).toArray := by
  have h5 := Box.put h i (.int .u8 (z.toNat : Int))
  rwa [set_bc] at h5
theorem box_at {w : World} {g : Nat} {l : List UInt8} (h : Box w g 5 (bc l).toArray) {i : Nat} {u : UInt8} (hu : l[i]? = some u) : w.cell? ⟨g, i, none⟩ = some (.int .u8 (u.toNat : Int)) := by
  rw [Box.cell h]
  simp [bc, hu]
/-- A list laid out by a rule of the place. -/
def byRule (n : Nat) (f : Nat → UInt8) : List UInt8 := (List.range n).map f
theorem byRule_length (n : Nat) (f : Nat → UInt8) : (byRule n f).length = n := by simp [byRule]
theorem byRule_at (n : Nat) (f : Nat → UInt8) (i : Nat) (h : i < n) : (byRule n f)[i]? = some (f i) := by simp [byRule, h]
theorem byRule_set (n : Nat) (f h : Nat → UInt8) (k : Nat) (hf : ∀ i, i ≠ k → f i = h i) : (byRule n f).set k (h k) = byRule n h := by
  apply List.ext_getElem?
  intro i
  rw [List.getElem?_set]
  by_cases e : k = i
  · subst e
    by_cases hk : k < n <;> simp [byRule, hk]
  · by_cases hi : i < n <;> simp [byRule, hi, e, hf i (fun h => e h.symm)]
theorem byRule_zero (n : Nat) : byRule n (fun _ => 0) = List.replicate n 0 := by
  apply List.ext_getElem <;> simp [byRule]
end Go.Proofs.Ytnhondkdkjehaaa
