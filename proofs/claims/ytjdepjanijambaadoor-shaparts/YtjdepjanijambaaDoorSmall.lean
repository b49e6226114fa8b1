/-
  Contracts of New, Len, Clone, and of what nobody made.
-/
import Derived.Test.YtjdepjanijambaaDoorTake
import Derived.Deep.OwnRows
namespace Go.Proofs.YtjdepjanijambaaDoor
open Go.RowKit

def noughts : Nat → Nat := fun _ => 0
theorem built_new : Tryd.prog.built 49 [(0, .bool true), (1, .agg (s8s First).toArray)] = some (hcells First noughts 0).toArray := by kernel_rfl

theorem new_any (w : World) (ht : Tabs w) : Calls Tryd.prog 12 #[] w fun e w' => e = .returned (.pointer (some ⟨w.heap.size, 0, none⟩)) ∧ w.alloc (.cells (hcells First noughts 0).toArray 49) = w' := by
  have HT := Lib.hid ht
  clear ht
  go_enter Tryd.func12, Tryd.ntmps12
  go_wp2_with (first | (refine wpList_load_mid rfl 25 _ rfl 1 0 rfl (s8s First) _ HT.out.2 Tryd.underlying25 rfl (info8s First) ?_) | (refine wpList_build rfl 49 _ rfl ?_ ?_))
  · rw [built_new]
    rfl
  · rw [built_new]
    go_ret
    exact ⟨rfl, rfl⟩
theorem len_made (g : Nat) (l : List UInt8) (w : World) (h : Hsh w g l) : Calls Tryd.prog 14 #[.pointer (some ⟨g, 0, none⟩)] w fun e w' => e = .returned (.int .u64 (l.length : Int)) ∧ w = w' := by
  have h0 := h.made
  have h1 := h.count
  clear h
  go_enter Tryd.func14, Tryd.ntmps14
  go_wp2_with (refine (there_made _ _ h0).mono ?_; rintro e w' ⟨rfl, rfl⟩)
  go_ret
  exact ⟨rfl, rfl⟩
theorem zeroHash : (Tryd.prog.info? 49).map (fun i => (i.zero, i.size)) = some (some (.agg (.bool false :: (s8s ⟨0, 0, 0, 0, 0, 0, 0, 0⟩ ++ (u8s noughts 64 ++ [.int .u64 0]))).toArray), 74) := by kernel_rfl
theorem infoHash (s : S8) (B : Nat → Nat) (n : Nat) : (Tryd.prog.info? 49).map (·.size) = some (hcells s B n).toArray.size := by
  rw [List.size_toArray, hcells_length]
  exact (zero_of_info zeroHash).2

def ClonePost (w : World) (l : List UInt8) (r : Ending) (w' : World) : Prop := r = .returned (.pointer (some ⟨w.heap.size, 0, none⟩)) ∧ Hsh w' w.heap.size l ∧ Below w.heap.size w w'
theorem clone_made (g : Nat) (l : List UInt8) (w : World) (h : Hsh w g l) : Calls Tryd.prog 17 #[.pointer (some ⟨g, 0, none⟩)] w (ClonePost w l) := by
  have h0 := h.made
  obtain ⟨B, hb, hB⟩ := h
  have HB := Lib.hid hb
  have HF := Lib.hid hB
  clear hb hB
  have hz := (zero_of_info zeroHash).1
  go_enter Tryd.func17, Tryd.ntmps17
  go_wp2_with (first | (refine (there_made _ _ h0).mono ?_; rintro e w' ⟨rfl, rfl⟩) | (refine wpList_load_row rfl 49 _ rfl g rfl 49 _ (0, 0) _ HB.out Tryd.underlying49 rfl (infoHash _ _ _) ?_) | (refine wpList_store_row rfl 49 _ _ rfl w.heap.size _ rfl rfl 49 _ (heap_alloc_new w _) (infoHash _ _ _) (by simp [hcells_length, s8s_length, u8s_length]) (hcells_one _ _ _) ?_))
  rw [World.setRow_alloc_new]
  go_ret
  exact ⟨rfl, ⟨B, Box.made _ _ _, HF.out⟩, below1 w _⟩
end Go.Proofs.YtjdepjanijambaaDoor
