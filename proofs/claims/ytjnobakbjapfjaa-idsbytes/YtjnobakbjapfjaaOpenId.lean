/-
  Arguments of the laws, opened: an id.
-/
import Derived.Test.YtjnobakbjapfjaaId
import Derived.Test.YtjnobakbjapfjaaProg
import Derived.WalkKit
import Derived.ProofKit
import Derived.OpenShut
import Derived.ShutString
import Derived.ChangeOld
namespace Go.Proofs.Ytjnobakbjapfjaa
open Go.ChangeShapes Go.WideShapes Go.ChangeAt Go.RowKit

theorem bytes_of : ∀ cs : List Value, (∀ i, i < cs.length → ∃ b : UInt8, cs[i]? = some (.int .u8 (b.toNat : Int))) → ∃ l : List UInt8, cs = bc l
  | [], _ => ⟨[], rfl⟩
  | c :: cs, h => by
    obtain ⟨b, hb⟩ := h 0 (by simp)
    obtain ⟨l, hl⟩ := bytes_of cs (fun i hi => by
      obtain ⟨b, hb⟩ := h (i + 1) (by simp; omega)
      exact ⟨b, by simpa using hb⟩)
    refine ⟨b :: l, ?_⟩
    rw [hl, show c = .int .u8 (b.toNat : Int) by simpa using hb]
    rfl

section
variable {H : Type} {enc' : TypeId × Value → H} {W : World}
/-- Cells that are read as an array of 32 bytes are an id's. -/
theorem id_of_cells {fuel : Nat} {cs : List Value} {x : DataW H × List MemPlace} (h : DataW.trod enc' Try.prog W 0 (fun _ => true) true fuel 23 cs = some x) : ∃ i : Id, cs = enc i := by
  have hc1 : Try.prog.cellsOf 5 = 1 := by kernel_rfl
  have hc2 : Try.prog.cellsOf 23 = 32 := by kernel_rfl
  obtain ⟨xs, m, _, _, hl, hn, hx⟩ := DataW.trod_array Try.underlying23 h
  rw [hc1] at hx
  rw [hc2] at hl
  have hb : ∀ i, i < cs.length → ∃ b : UInt8, cs[i]? = some (.int .u8 (b.toNat : Int)) := fun i hi => by
    have h1 := hx i (by omega)
    rw [List.getElem?_eq_getElem (by omega)] at h1
    obtain ⟨n, hn, _, hw⟩ := DataW.trod_int Try.underlying5 h1
    have hbd := bounds_u8 hw
    refine ⟨UInt8.ofNat n.toNat, ?_⟩
    rw [Nat.mul_one, List.drop_eq_getElem_cons hi, List.take_succ_cons] at hn
    have hn' := (List.cons.inj hn).1
    have e : ((UInt8.ofNat n.toNat).toNat : Int) = n := by rw [UInt8.toNat_ofNat']; omega
    rw [List.getElem?_eq_getElem hi, hn', e]
  obtain ⟨l, rfl⟩ := bytes_of cs hb
  exact ⟨⟨l, by rw [bc_length] at hl; exact hl⟩, rfl⟩
set_option maxRecDepth 100000 in
theorem open_id {r : Reach} {b0 : Nat} {v : Value} {d : DataW H} {p : List MemPlace} (hval : Value.okWide Try.prog W r b0 23 v) (h : DataW.Trod enc' Try.prog W 0 (fun _ => true) true 23 v d p) : ∃ x : Id, v = .agg (enc x).toArray := by
  have hv : ∃ cs : Array Value, v = .agg cs := by
    simp only [Value.okWide, Try.underlying23] at hval
    obtain ⟨cs, h1, _⟩ := hval
    exact ⟨cs, h1⟩
  obtain ⟨cs, rfl⟩ := hv
  obtain ⟨fuel, hf⟩ := h
  obtain ⟨i, hi⟩ := id_of_cells hf
  refine ⟨i, ?_⟩
  rw [← hi]
  simp [Value.cells]
end
end Go.Proofs.Ytjnobakbjapfjaa
