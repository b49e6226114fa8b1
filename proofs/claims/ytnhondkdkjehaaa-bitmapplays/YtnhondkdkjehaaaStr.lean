/-
  Texts: put together, cut, and made of bytes.
-/
import Derived.Test.YtnhondkdkjehaaaMem
import Derived.Test.YtnhondkdkjehaaaProg
import Derived.Laws.BytesArg
import Derived.Lib.Strings
namespace Go.Proofs.Ytnhondkdkjehaaa
open Go.RowKit

theorem string_eq (s : ByteArray) : (⟨s.data.toList.toArray⟩ : ByteArray) = s := by
  obtain ⟨⟨l⟩⟩ := s
  rfl
theorem str_append (l m : List UInt8) : (⟨l.toArray⟩ : ByteArray) ++ (⟨m.toArray⟩ : ByteArray) = ⟨(l ++ m).toArray⟩ := by
  rw [← string_eq (_ ++ _)]
  congr 1
theorem str_size (l : List UInt8) : (⟨l.toArray⟩ : ByteArray).size = l.length := by simp [ByteArray.size]
theorem strOf_bytes (l : List UInt8) : strOfNums (l.map fun b => (b.toNat : Int)) = ⟨l.toArray⟩ := by
  unfold strOfNums
  congr 2
  rw [List.map_map]
  conv => rhs; rw [← List.map_id l]
  apply List.map_congr_left
  intro b _
  simp

/-- A slice of bytes, as a text. -/
theorem conv_lies {w : World} {N : Nat → Prop} {A : Option Addr} {n c : Nat} {l : List UInt8} (h : Lies w N A n c (bc l)) : (convert 22 9 (.slice A n c)).run Try.prog w = .ok (.string ⟨l.toArray⟩) w := by
  have hn : n = l.length := by rw [← h.1, bc_length]
  have hm : bc l = (l.map fun b => (b.toNat : Int)).map (Value.int .u8) := by simp [bc]
  cases A with
  | none =>
    have h0 : n = 0 := by
      rcases Nat.eq_zero_or_pos n with h0 | h0
      · exact h0
      · obtain ⟨ad, h1, _⟩ := h.2.2 h0
        cases h1
    have : l = [] := List.eq_nil_of_length_eq_zero (by omega)
    subst this
    subst h0
    exact run_convert_bytes_nil w 22 5 Try.underlying22 Try.underlying5 0 c 9 Try.underlying9
  | some ad =>
    have hld : (loadCells ad n).run Try.prog w = .ok ((l.map fun b => (b.toNat : Int)).map (Value.int .u8)).toArray w := by
      rw [← hm, ← h.1]
      refine run_loadCells_list (P := Try.prog) w ad (bc l) (fun j u hu => ?_)
      have hj : j < (bc l).length := (List.getElem?_eq_some_iff.1 hu).1
      obtain ⟨ad', h1, _, _, h4⟩ := h.2.2 (by rw [← h.1]; omega)
      injection h1 with h1
      subst h1
      exact h4 j u hu
    rw [run_convert_bytes_string w 22 9 5 _ n c Try.underlying22 Try.underlying5 Try.underlying9, run_bytesToString w _ n c _ hld, foldl_push_bytes, ← strOf_bytes l]
    simp [strOfNums, ByteArray.empty, ByteArray.emptyWithCapacity]
    rfl
/-- A slice of one new byte, as a text. -/
theorem conv_byte (w : World) (c : Int) (b : UInt8) (h : c = (b.toNat : Int)) : (convert 22 9 (.slice (some ⟨w.heap.size, 0, none⟩) 1 1)).run Try.prog (w.alloc (.cells #[.int .u8 c] 5)) = .ok (.string ⟨[b].toArray⟩) (w.alloc (.cells #[.int .u8 c] 5)) := by
  subst h
  have hb := Box.made w 5 #[.int .u8 (b.toNat : Int)]
  exact conv_lies (N := fun _ => True) (l := [b]) ⟨rfl, Nat.le_refl _, fun _ => ⟨_, rfl, trivial, hb.lt, fun j u hu => by
    rw [Addr.add_mid, hb.cell, Nat.zero_add]
    simpa [bc] using hu⟩⟩
end Go.Proofs.Ytnhondkdkjehaaa
