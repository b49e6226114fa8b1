/-
  Arguments of the laws, opened: slices of bytes.
-/
import Derived.Test.YtnhondkdkjehaaaMem
import Derived.Test.YtnhondkdkjehaaaProg
import Derived.WalkKit
import Derived.ProofKit
import Derived.OpenShut
import Derived.ShutString
import Derived.ChangeOld
namespace Go.Proofs.Ytnhondkdkjehaaa
open Go.ChangeShapes Go.WideShapes Go.ChangeAt Go.RowKit

section
variable {H : Type} {enc : TypeId × Value → H} {W : World} {A : Option Addr} {n c : Nat} {d : DataW H} {p : List MemPlace}

theorem lies_of {x : Addr} {xs : List Value} (hl : n ≤ c) (hx : xs.length = n) (hc : ∀ j u, xs[j]? = some u → W.cell? (x.add j) = some u) : Lies W (fun _ => True) (some x) n c xs := by
  refine ⟨hx, hl, fun h0 => ⟨x, rfl, trivial, ?_, hc⟩⟩
  have h1 := hc 0 (xs[0]'(by omega)) (List.getElem?_eq_getElem (by omega))
  have := World.block_lt_of_cell? W _ h1
  rwa [add_block] at this

theorem map_getD {α : Type} (f : α → Value) (d : α) (zs : List α) (j : Nat) (u : Value) (h : (zs.map f)[j]? = some u) : j < zs.length ∧ u = f (zs.getD j d) := by
  rw [List.getElem?_map] at h
  rcases hz : zs[j]? with _ | z
  · rw [hz] at h
    cases h
  · rw [hz] at h
    have hj : j < zs.length := by
      rcases Nat.lt_or_ge j zs.length with h1 | h1
      · exact h1
      · rw [List.getElem?_eq_none h1] at hz
        cases hz
    refine ⟨hj, ?_⟩
    simp only [List.getD, hz, Option.getD_some]
    simpa using h.symm

/-- A slice of bytes that came in. -/
theorem open_bytes (h : DataW.Trod enc Try.prog W 0 (fun _ => true) true 22 (.slice A n c) d p) : ∃ l : List UInt8, Lies W (fun _ => True) A n c (bc l) := by
  obtain ⟨fuel, hf⟩ := h
  rcases open_ints Try.underlying22 Try.underlying5 (by kernel_rfl) hf with ⟨hcs, _⟩ | ⟨x, l, cc, zs, hcs, _, hl, hm, hz, _, hcell, hwz⟩
  · simp [Value.cells] at hcs
    obtain ⟨rfl, rfl, rfl⟩ := hcs
    exact ⟨[], Lies.nil _ _⟩
  · simp [Value.cells] at hcs
    obtain ⟨rfl, rfl, rfl⟩ := hcs
    have hz' : zs.length = c := by simpa using hz
    refine ⟨(zs.take n).map fun z => UInt8.ofNat z.toNat, ?_⟩
    have e : bc ((zs.take n).map fun z => UInt8.ofNat z.toNat) = (zs.take n).map (Value.int .u8) := by
      unfold bc
      rw [List.map_map]
      apply List.map_congr_left
      intro z hzm
      have hb := bounds_u8 (hwz z (List.mem_of_mem_take hzm))
      simp only [Function.comp, UInt8.toNat_ofNat']
      congr 1
      omega
    rw [e]
    refine lies_of hl (by rw [List.length_map, List.length_take]; omega) (fun j u hu => ?_)
    obtain ⟨hj, rfl⟩ := map_getD (Value.int .u8) 0 _ j u hu
    rw [List.length_take] at hj
    rw [hcell j (by omega)]
    simp [List.getD, show j < n by omega]
end
end Go.Proofs.Ytnhondkdkjehaaa
