/-
  Arguments of the laws, opened: a list of ids.
-/
import Derived.Test.YtjnobakbjapfjaaOpenId
import Derived.Deep.Slices
namespace Go.Proofs.Ytjnobakbjapfjaa
open Go.ChangeShapes Go.WideShapes Go.ChangeAt Go.RowKit

/-- Ids one by one are ids one behind the other. -/
theorem ids_range (w : World) (b off : Nat) : ∀ (xs : List Id) (k : Nat), (∀ j, j < xs.length → w.rangeAt b (off + (k + j) * 32) (enc xs[j]!)) → w.rangeAt b (off + k * 32) (ec xs)
  | [], _, _ => fun j v hv => by simp [ec, fb, bc] at hv
  | x :: xs, k, h => by
    have h0 := h 0 (by simp)
    have ih := ids_range w b off xs (k + 1) (fun j hj => by
      have := h (j + 1) (by simp; omega)
      rw [show k + (j + 1) = k + 1 + j by omega] at this
      simpa using this)
    intro j v hv
    rw [ec_cons] at hv
    by_cases hj : j < 32
    · rw [List.getElem?_append_left (by rw [enc_length]; exact hj)] at hv
      have := h0 j v (by simpa using hv)
      simpa using this
    · rw [List.getElem?_append_right (by rw [enc_length]; omega), enc_length] at hv
      have := ih (j - 32) v hv
      rwa [show off + (k + 1) * 32 + (j - 32) = off + k * 32 + j by omega] at this

section
variable {H : Type} {enc' : TypeId × Value → H} {W : World} {A : Option Addr} {n c : Nat} {d : DataW H} {p : List MemPlace}
theorem open_ids (h : DataW.Trod enc' Try.prog W 0 (fun _ => true) true 33 (.slice A n c) d p) : ∃ xs : List Id, Ids W A n c xs := by
  have hc2 : Try.prog.cellsOf 23 = 32 := by kernel_rfl
  obtain ⟨fuel, hf⟩ := h
  rcases Go.Deep.open_slice Try.underlying33 hf with ⟨hcs, _⟩ | ⟨a, len, cap, m, f, D, Pl, hcs, _, hl, hm, hmm, _, hx⟩
  · simp [Value.cells] at hcs
    obtain ⟨rfl, rfl, rfl⟩ := hcs
    exact ⟨[], Ids.nil _ _ _⟩
  · simp [Value.cells] at hcs
    obtain ⟨rfl, rfl, rfl⟩ := hcs
    simp at hmm
    subst hmm
    rw [hc2] at hx
    have hi : ∀ i, i < n → ∃ x : Id, ∀ j v, (enc x)[j]? = some v → W.cell? (a.add (i * 32 + j)) = some v := fun i hi => by
      obtain ⟨cs', h1, h2⟩ := hx i (by omega)
      obtain ⟨x, rfl⟩ := id_of_cells h2
      obtain ⟨_, h3, h4⟩ := World.cells?_some h1
      refine ⟨x, fun j v hv => ?_⟩
      have hj : j < 32 := by rw [← enc_length x]; exact (List.getElem?_eq_some_iff.1 hv).1
      rw [← add_add', h4 j hj]
      exact hv
    have hch : ∃ f : Nat → Id, ∀ i, i < n → ∀ j v, (enc (f i))[j]? = some v → W.cell? (a.add (i * 32 + j)) = some v :=
      ⟨fun i => if h : i < n then Classical.choose (hi i h) else default, fun i h => by
        simp only [h, dif_pos]
        exact Classical.choose_spec (hi i h)⟩
    obtain ⟨f, hf⟩ := hch
    refine ⟨(List.range n).map f, by simp, hl, fun h0 => ?_⟩
    obtain ⟨b, off, spot⟩ := a
    have hc0 : ∃ v, (enc (f 0))[0]? = some v := ⟨_, List.getElem?_eq_getElem (by rw [enc_length]; omega)⟩
    obtain ⟨v0, hv0⟩ := hc0
    have h00 := hf 0 h0 0 v0 hv0
    have hs : spot = none := by simpa [Addr.add] using World.cell?_spot h00
    subst hs
    have hlt := World.block_lt_of_cell? W _ h00
    rw [add_block] at hlt
    refine ⟨b, off, rfl, hlt, ?_⟩
    have := ids_range W b off ((List.range n).map f) 0 (fun j hj t v hv => ?_)
    · simpa using this
    · have hj' : j < n := by simpa using hj
      rw [getElem!_pos _ j hj] at hv
      have := hf j hj' t v (by simpa using hv)
      rw [Addr.add_mid] at this
      rw [Nat.zero_add, Nat.add_assoc]
      exact this
end
end Go.Proofs.Ytjnobakbjapfjaa
