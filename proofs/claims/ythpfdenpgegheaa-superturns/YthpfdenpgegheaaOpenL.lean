/-
  Arguments of the laws, opened: lists of three numbers each.
-/
import Derived.Test.YthpfdenpgegheaaOpenThree
import Derived.Deep.Slices
namespace Go.Proofs.Ythpfdenpgegheaa
open Go.ChangeShapes Go.WideShapes Go.ChangeAt Go.RowKit

/-- A slice whose places are three numbers each. -/
def Threes (W : World) (A : Option Addr) (n c : Nat) : Prop :=
  n ≤ c ∧ ∀ j, j < n → ∃ b off x y z, A = some ⟨b, off, none⟩ ∧ b < W.heap.size ∧ W.cell? ⟨b, off + j * 3, none⟩ = some (.int .i64 x) ∧ W.cell? ⟨b, off + j * 3 + 1, none⟩ = some (.int .i64 y) ∧ W.cell? ⟨b, off + j * 3 + 2, none⟩ = some (.int .i64 z)
section
variable {H : Type} {enc' : TypeId × Value → H} {W : World} {A : Option Addr} {n c : Nat} {d : DataW H} {p : List MemPlace}
theorem open_threes (h : DataW.Trod enc' Try.prog W 0 (fun _ => true) true 59 (.slice A n c) d p) : ∃ _ : Unit, Threes W A n c := by
  have hc2 : Try.prog.cellsOf 39 = 3 := by kernel_rfl
  obtain ⟨fuel, hf⟩ := h
  rcases Go.Deep.open_slice Try.underlying59 hf with ⟨hcs, _⟩ | ⟨a, len, cap, m, f, D, Pl, hcs, _, hl, hm, hmm, _, hx⟩
  · simp [Value.cells] at hcs
    obtain ⟨rfl, rfl, rfl⟩ := hcs
    exact ⟨(), Nat.le_refl _, fun j h => absurd h (Nat.not_lt_zero j)⟩
  · simp [Value.cells] at hcs
    obtain ⟨rfl, rfl, rfl⟩ := hcs
    simp at hmm
    subst hmm
    rw [hc2] at hx
    refine ⟨(), hl, fun j hj => ?_⟩
    obtain ⟨cs', h1, h2⟩ := hx j (by omega)
    obtain ⟨x, y, z, rfl⟩ := three_of_cells h2
    obtain ⟨_, h3, h4⟩ := World.cells?_some h1
    have g : ∀ i v, i < 3 → [Value.int .i64 x, .int .i64 y, .int .i64 z][i]? = some v → W.cell? (a.add (j * 3 + i)) = some v := fun i v hi hv => by
      rw [← add_add', h4 i hi]
      exact hv
    obtain ⟨cs0, k1, k2⟩ := hx 0 (by omega)
    obtain ⟨x0, y0, z0, rfl⟩ := three_of_cells k2
    obtain ⟨_, k3, k4⟩ := World.cells?_some k1
    have k00 := k4 0 (by omega)
    obtain ⟨b, off, spot⟩ := a
    have h00 := g 0 _ (by omega) rfl
    have hs : spot = none := by
      have : World.cell? W ((⟨b, off, spot⟩ : Addr).add (0 * 3) |>.add 0) = some (.int .i64 x0) := k00
      simpa [Addr.add] using World.cell?_spot this
    subst hs
    have hlt := World.block_lt_of_cell? W _ h00
    rw [add_block] at hlt
    refine ⟨b, off, x, y, z, rfl, hlt, ?_, ?_, ?_⟩
    · have := g 0 _ (by omega) rfl
      rwa [Addr.add_mid, Nat.add_zero] at this
    · have := g 1 _ (by omega) rfl
      rwa [Addr.add_mid, ← Nat.add_assoc] at this
    · have := g 2 _ (by omega) rfl
      rwa [Addr.add_mid, ← Nat.add_assoc] at this
end
end Go.Proofs.Ythpfdenpgegheaa
