/-
  An argument that is a slice of slices of bytes, as a matrix.
-/
import Derived.Test.YtgakeecibofiiaaOpenRows
import Derived.Test.YtgakeecibofiiaaMtx
namespace Go.Proofs.Ytgakeecibofiiaa
open Go.ChangeShapes Go.WideShapes Go.ChangeAt Go.RowKit

theorem mtx_of_rows {W : World} {A : Option Addr} {n c : Nat} (h : LiesRows W A n c) : ∃ M, Mtx W A n c M := by
  obtain ⟨xs, h1, h2⟩ := h
  have h' : ∀ k, ∃ l : List UInt8, k < n → ∃ A' c', xs[k]? = some (.slice A' l.length c') ∧ Lies W (fun _ => True) A' l.length c' (bc l) := fun k => by
    by_cases hk : k < n
    · obtain ⟨A', n', c', l, e1, e2, _⟩ := h2 k hk
      have hl : n' = l.length := by rw [← e2.len, bc_length]
      subst hl
      exact ⟨l, fun _ => ⟨A', c', e1, e2⟩⟩
    · exact ⟨[], fun h => absurd h hk⟩
  refine ⟨(List.range n).map (fun k => Classical.choose (h' k)), by simp, h1.le, fun h0 => ?_⟩
  obtain ⟨ad, hA, _, hlt, hc⟩ := h1.2.2 h0
  obtain ⟨x0, hx0⟩ : ∃ x, xs[0]? = some x := ⟨_, List.getElem?_eq_getElem (by rw [h1.len]; exact h0)⟩
  obtain ⟨b, off, hA2, _, hb, _⟩ := h1.at hx0
  refine ⟨b, off, hA2, hb, fun i l hl => ?_⟩
  have hi : i < n := by
    have := (List.getElem?_eq_some_iff.1 hl).1
    simpa using this
  rw [List.getElem?_map, List.getElem?_range hi] at hl
  simp at hl
  obtain ⟨A', c', e1, e2⟩ := Classical.choose_spec (h' i) hi
  rw [hl] at e1 e2
  refine ⟨A', c', ?_, e2⟩
  rw [hA2] at hA
  cases hA
  have := hc i _ e1
  rwa [Addr.add_mid] at this
theorem open_mtx {H : Type} {enc : TypeId × Value → H} {W : World} {A : Option Addr} {n c : Nat} {d : DataW H} {p : List MemPlace} (h : DataW.Trod enc Try.prog W 0 (fun _ => true) true 22 (.slice A n c) d p) : ∃ M, Mtx W A n c M := mtx_of_rows (open_rows h)
end Go.Proofs.Ytgakeecibofiiaa
