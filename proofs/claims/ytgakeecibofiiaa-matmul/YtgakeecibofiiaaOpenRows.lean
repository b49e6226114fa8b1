/-
  Arguments of the laws, opened: slices of slices of bytes.
-/
import Derived.Test.YtgakeecibofiiaaArgs
import Derived.Deep.Slices
namespace Go.Proofs.Ytgakeecibofiiaa
open Go.ChangeShapes Go.WideShapes Go.ChangeAt Go.RowKit

/-- A slice whose elements are slices of bytes. -/
def LiesRows (W : World) (A : Option Addr) (n c : Nat) : Prop :=
  ∃ xs : List Value, Lies W (fun _ => True) A n c xs ∧ ∀ k, k < n → ∃ A' n' c' l, xs[k]? = some (.slice A' n' c') ∧ Lies W (fun _ => True) A' n' c' (bc l) ∧ (A' = none → c' = 0)

section
variable {H : Type} {enc : TypeId × Value → H} {W : World} {A : Option Addr} {n c : Nat} {d : DataW H} {p : List MemPlace}
theorem bytes_of_trod {fuel : Nat} {v : Value} {x : DataW H × List MemPlace} (h : DataW.trod enc Try.prog W 0 (fun _ => true) true fuel 31 [v] = some x) : ∃ A' n' c' l, v = .slice A' n' c' ∧ Lies W (fun _ => True) A' n' c' (bc l) ∧ (A' = none → c' = 0) := by
  have h' := h
  rcases open_ints Try.underlying31 Try.underlying5 (by kernel_rfl) h with ⟨hcs, _⟩ | ⟨a, l, cc, zs, hcs, _⟩
  · injection hcs with hcs
    subst hcs
    exact ⟨none, 0, 0, [], rfl, Lies.nil _ _, fun _ => rfl⟩
  · injection hcs with hcs
    subst hcs
    obtain ⟨l', hl'⟩ := open_bytes (A := some a) (n := l) (c := cc) (d := x.1) (p := x.2) ⟨fuel, h'⟩
    exact ⟨_, _, _, l', rfl, hl', fun e => by cases e⟩
theorem open_rows (h : DataW.Trod enc Try.prog W 0 (fun _ => true) true 22 (.slice A n c) d p) : LiesRows W A n c := by
  obtain ⟨fuel, hf⟩ := h
  rcases Go.Deep.open_slice1 Try.underlying22 (by kernel_rfl) hf with ⟨hcs, _⟩ | ⟨a, len, cap, m, f, V, D, Pl, hcs, _, hl, hm, hmm, _, hx⟩
  · simp [Value.cells] at hcs
    obtain ⟨rfl, rfl, rfl⟩ := hcs
    exact ⟨[], Lies.nil _ _, fun k hk => absurd hk (Nat.not_lt_zero _)⟩
  · simp [Value.cells] at hcs
    obtain ⟨rfl, rfl, rfl⟩ := hcs
    simp at hmm
    subst hmm
    refine ⟨(List.range n).map V, lies_of hl (by simp) (fun j u hu => ?_), fun k hk => ?_⟩
    · rw [List.getElem?_map] at hu
      have hj : j < n := by
        rcases Nat.lt_or_ge j n with h1 | h1
        · exact h1
        · rw [List.getElem?_eq_none (by simpa using h1)] at hu
          cases hu
      rw [List.getElem?_range hj] at hu
      rw [(hx j (by omega)).1]
      simpa using hu
    · obtain ⟨A', n', c', l, hv, h1, h2⟩ := bytes_of_trod (hx k (by omega)).2
      exact ⟨A', n', c', l, by rw [List.getElem?_map, List.getElem?_range hk, ← hv]; rfl, h1, h2⟩
end
end Go.Proofs.Ytgakeecibofiiaa
