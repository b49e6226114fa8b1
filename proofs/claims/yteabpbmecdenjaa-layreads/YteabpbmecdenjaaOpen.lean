/-
  Arguments of the laws, opened: slices of bytes, of numbers, of texts.
-/
import Derived.Test.YteabpbmecdenjaaOneForm
import Derived.ProofKit
import Derived.OpenShut
import Derived.ShutString
import Derived.ChangeOld
import Derived.SliceStrings
namespace Go.Proofs.Yteabpbmecdenjaa
open Go.ChangeShapes Go.WideShapes Go.ChangeAt Go.RowKit

section
variable {H : Type} {enc : TypeId × Value → H} {W : World} {A : Option Addr} {n c : Nat} {d : DataW H} {p : List MemPlace}

theorem arg_of {x : Addr} {xs : List Value} (hl : n ≤ c) (hx : xs.length = n) (hc : ∀ j u, xs[j]? = some u → W.cell? (x.add j) = some u) : Arg W (some x) n c xs :=
  .inr ⟨x, rfl, hl, hx, fun j u hu => ⟨by have := World.block_lt_of_cell? W _ (hc j u hu); rwa [add_block] at this, hc j u hu⟩⟩

theorem map_getD {α : Type} (f : α → Value) (d : α) (zs : List α) (j : Nat) (u : Value) (h : (zs.map f)[j]? = some u) : j < zs.length ∧ u = f (zs.getD j d) := by
  rw [List.getElem?_map] at h
  rcases hz : zs[j]? with _ | z
  · rw [hz] at h
    cases h
  · rw [hz] at h
    have hj : j < zs.length := by
      rcases Nat.lt_or_ge j zs.length with h1 | h1
      · exact h1
      · rw [List.getElem?_eq_none h1] at hz
        cases hz
    refine ⟨hj, ?_⟩
    simp only [List.getD, hz, Option.getD_some]
    simpa using h.symm

theorem open_bytes (h : DataW.Trod enc Try.prog W 0 (fun _ => true) true 22 (.slice A n c) d p) : ∃ l : List UInt8, Arg W A n c (bc l) := by
  obtain ⟨fuel, hf⟩ := h
  rcases open_ints Try.underlying22 Try.underlying5 (by kernel_rfl) hf with ⟨hcs, _⟩ | ⟨x, l, cc, zs, hcs, _, hl, hm, hz, _, hcell, hwz⟩
  · simp [Value.cells] at hcs
    obtain ⟨rfl, rfl, rfl⟩ := hcs
    exact ⟨[], .inl ⟨rfl, rfl, rfl, rfl⟩⟩
  · simp [Value.cells] at hcs
    obtain ⟨rfl, rfl, rfl⟩ := hcs
    have hz' : zs.length = c := by simpa using hz
    refine ⟨(zs.take n).map fun z => UInt8.ofNat z.toNat, ?_⟩
    have e : bc ((zs.take n).map fun z => UInt8.ofNat z.toNat) = (zs.take n).map (Value.int .u8) := by
      unfold bc
      rw [List.map_map]
      apply List.map_congr_left
      intro z hzm
      have hb := bounds_u8 (hwz z (List.mem_of_mem_take hzm))
      simp only [Function.comp, ofNat_toNat]
      congr 1
      omega
    rw [e]
    refine arg_of hl (by rw [List.length_map, List.length_take]; omega) (fun j u hu => ?_)
    obtain ⟨hj, rfl⟩ := map_getD (Value.int .u8) 0 _ j u hu
    rw [List.length_take] at hj
    rw [hcell j (by omega)]
    simp [List.getD, show j < n by omega]

theorem open_nums (h : DataW.Trod enc Try.prog W 0 (fun _ => true) true 23 (.slice A n c) d p) : ∃ vs : List Nat, Arg W A n c (nc vs) ∧ ∀ x ∈ vs, x < 18446744073709551616 := by
  obtain ⟨fuel, hf⟩ := h
  rcases open_ints Try.underlying23 Try.underlying26 (by kernel_rfl) hf with ⟨hcs, _⟩ | ⟨x, l, cc, zs, hcs, _, hl, hm, hz, _, hcell, hwz⟩
  · simp [Value.cells] at hcs
    obtain ⟨rfl, rfl, rfl⟩ := hcs
    exact ⟨[], .inl ⟨rfl, rfl, rfl, rfl⟩, fun x hx => by cases hx⟩
  · simp [Value.cells] at hcs
    obtain ⟨rfl, rfl, rfl⟩ := hcs
    have hz' : zs.length = c := by simpa using hz
    refine ⟨(zs.take n).map Int.toNat, ?_, ?_⟩
    · have e : nc ((zs.take n).map Int.toNat) = (zs.take n).map (Value.int .u64) := by
        unfold nc
        rw [List.map_map]
        apply List.map_congr_left
        intro z hzm
        have hb := bounds_u64 (hwz z (List.mem_of_mem_take hzm))
        simp only [Function.comp]
        congr 1
        omega
      rw [e]
      refine arg_of hl (by rw [List.length_map, List.length_take]; omega) (fun j u hu => ?_)
      obtain ⟨hj, rfl⟩ := map_getD (Value.int .u64) 0 _ j u hu
      rw [List.length_take] at hj
      rw [hcell j (by omega)]
      simp [List.getD, show j < n by omega]
    · intro x hx
      obtain ⟨z, hzm, rfl⟩ := List.mem_map.1 hx
      have hb := bounds_u64 (hwz z (List.mem_of_mem_take hzm))
      omega

theorem open_texts (h : DataW.Trod enc Try.prog W 0 (fun _ => true) true 24 (.slice A n c) d p) : ∃ ts : List ByteArray, Arg W A n c (tc ts) := by
  obtain ⟨fuel, hf⟩ := h
  rcases open_strings Try.underlying24 Try.underlying9 (by kernel_rfl) hf with ⟨hcs, _⟩ | ⟨x, l, cc, zs, hcs, _, hl, hm, hz, _, hcell, hwz⟩
  · simp [Value.cells] at hcs
    obtain ⟨rfl, rfl, rfl⟩ := hcs
    exact ⟨[], .inl ⟨rfl, rfl, rfl, rfl⟩⟩
  · simp [Value.cells] at hcs
    obtain ⟨rfl, rfl, rfl⟩ := hcs
    have hz' : zs.length = c := by simpa using hz
    refine ⟨zs.take n, ?_⟩
    refine arg_of hl (by rw [tc_length, List.length_take]; omega) (fun j u hu => ?_)
    obtain ⟨hj, rfl⟩ := map_getD Value.string ByteArray.empty _ j u hu
    rw [List.length_take] at hj
    rw [hcell j (by omega)]
    simp [List.getD, show j < n by omega]
end

end Go.Proofs.Yteabpbmecdenjaa
