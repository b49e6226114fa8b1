/-
  A nil row of an argument has no room.
-/
import Derived.Test.YtgakeecibofiiaaOpenMtx
namespace Go.Proofs.Ytgakeecibofiiaa
open Go.ChangeShapes Go.WideShapes Go.ChangeAt Go.RowKit

/-- A row that is nil has no room. -/
def Caps (w : World) (A : Option Addr) (n : Nat) : Prop := ∀ (b off i : Nat) (Ai : Option Addr) (ni ci : Nat), A = some ⟨b, off, none⟩ → i < n → w.cell? ⟨b, off + i, none⟩ = some (.slice Ai ni ci) → Ai = none → ci = 0
theorem caps_of_rows {W : World} {A : Option Addr} {n c : Nat} (h : LiesRows W A n c) : Caps W A n := by
  obtain ⟨xs, h1, h2⟩ := h
  intro b off i Ai ni ci hA hi hc hn
  obtain ⟨A', n', c', l, e1, _, e3⟩ := h2 i hi
  obtain ⟨b', off', hA', _, _, hc'⟩ := h1.at e1
  rw [hA] at hA'
  cases hA'
  rw [hc] at hc'
  cases hc'
  exact e3 hn
theorem open_caps {H : Type} {enc : TypeId × Value → H} {W : World} {A : Option Addr} {n c : Nat} {d : DataW H} {p : List MemPlace} (h : DataW.Trod enc Try.prog W 0 (fun _ => true) true 22 (.slice A n c) d p) : Caps W A n := caps_of_rows (open_rows h)
end Go.Proofs.Ytgakeecibofiiaa
