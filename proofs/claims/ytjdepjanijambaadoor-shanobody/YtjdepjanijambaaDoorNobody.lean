/-
  Hashes that nobody made, and the law ShaNobody, walked.
-/
import Derived.Test.YtjdepjanijambaaDoorOf
namespace Go.Proofs.YtjdepjanijambaaDoor
open Go.RowKit

/-- A pointer to a hash that nobody made: nil, or a plain one. -/
def Nobody (w : World) (p : Option Addr) : Prop := p = none ∨ ∃ g, p = some ⟨g, 0, none⟩ ∧ w.cell? ⟨g, 0, none⟩ = some (.bool false)
theorem nobody_none (w : World) : Nobody w none := .inl rfl
theorem there_nobody (p : Option Addr) (w : World) (h : Nobody w p) : Calls Tryd.prog 21 #[.pointer p] w fun e w' => e = .returned (.bool false) ∧ w = w' := by
  rcases h with rfl | ⟨g, rfl, h⟩
  · exact there_nil w
  · exact there_plain g w h
theorem take_nobody (p : Option Addr) (V : Value) (w : World) (h : Nobody w p) : Calls Tryd.prog 13 #[.pointer p, V] w fun e w' => e = .returned (.tuple #[]) ∧ w = w' := by
  go_enter Tryd.func13, Tryd.ntmps13
  go_wp2_with (refine (there_nobody _ _ h).mono ?_; rintro e w' ⟨rfl, rfl⟩)
  exact bodyPost_ret (results_none Tryd.results13 _ _ _) rfl ⟨rfl, rfl⟩
theorem len_nobody (p : Option Addr) (w : World) (h : Nobody w p) : Calls Tryd.prog 14 #[.pointer p] w fun e w' => e = .returned (.int .u64 0) ∧ w = w' := by
  go_enter Tryd.func14, Tryd.ntmps14
  go_wp2_with (refine (there_nobody _ _ h).mono ?_; rintro e w' ⟨rfl, rfl⟩)
  go_ret
  exact ⟨rfl, rfl⟩
theorem clone_nobody (p : Option Addr) (w : World) (h : Nobody w p) : Calls Tryd.prog 17 #[.pointer p] w fun e w' => e = .returned (.pointer none) ∧ w = w' := by
  go_enter Tryd.func17, Tryd.ntmps17
  go_wp2_with (refine (there_nobody _ _ h).mono ?_; rintro e w' ⟨rfl, rfl⟩)
  go_ret
  exact ⟨rfl, rfl⟩
theorem nobody_below {w w' : World} {p : Option Addr} (h : Nobody w p) (hb : Below w.heap.size w w') : Nobody w' p := by
  rcases h with rfl | ⟨g, rfl, h⟩
  · exact .inl rfl
  · exact .inr ⟨g, rfl, (hb.cell (p := ⟨g, 0, none⟩) (block_lt_of_cell h)).trans h⟩
set_option maxRecDepth 100000 in
theorem sum_nobody (p : Option Addr) (w : World) (h : Nobody w p) : Calls Tryd.prog 16 #[.pointer p] w fun e w' => e = .returned (.agg (u8s noughts 32).toArray) ∧ Below w.heap.size w w' := by
  have HN := Lib.hid h
  clear h
  go_enter Tryd.func16, Tryd.ntmps16
  go_wp2_with fail
  refine (there_nobody _ _ (nobody_below HN.out (below1 w _))).mono ?_
  rintro e w' ⟨rfl, rfl⟩
  go_wp2_with (refine wpList_store_row rfl 41 _ _ rfl w.heap.size _ rfl rfl 41 _ (heap_alloc_new w _) (by kernel_rfl) (by kernel_rfl) (by kernel_rfl) ?_)
  rw [← zeros32]
  refine bodyPost_ret (v := .agg (u8s noughts 32).toArray) (results_cell_row (P := Tryd.prog) (p := 2) (ty := 41) Tryd.results16 _ _ w.heap.size 41 _ (0, 0) _ rfl (setRow_heap _ _ _ _ _ _ (heap_alloc_new w _)) Tryd.underlying41 rfl (infoSums _)) rfl ⟨rfl, ?_⟩
  exact below_setRow (below1 w _) (Nat.le_refl _) _
theorem neq_noughts (w : World) : (binOp .neq 41 (.agg (u8s noughts 32).toArray) (.agg #[.int .u8 0, .int .u8 0, .int .u8 0, .int .u8 0, .int .u8 0, .int .u8 0, .int .u8 0, .int .u8 0, .int .u8 0, .int .u8 0, .int .u8 0, .int .u8 0, .int .u8 0, .int .u8 0, .int .u8 0, .int .u8 0, .int .u8 0, .int .u8 0, .int .u8 0, .int .u8 0, .int .u8 0, .int .u8 0, .int .u8 0, .int .u8 0, .int .u8 0, .int .u8 0, .int .u8 0, .int .u8 0, .int .u8 0, .int .u8 0, .int .u8 0, .int .u8 0])).run Tryd.prog w = .ok (.bool false) w := by kernel_rfl
theorem builtHash : Tryd.prog.built 49 [] = some (.bool false :: (s8s ⟨0, 0, 0, 0, 0, 0, 0, 0⟩ ++ (u8s noughts 64 ++ [.int .u64 0]))).toArray := by kernel_rfl

set_option maxRecDepth 100000 in
set_option maxHeartbeats 1000000 in
theorem nobody_walk (V : Value) (w : World) (ht : Tabs w) : Calls Tryd.prog 6 #[V] w fun e w' => e = .returned (.bool true) ∧ Below w.heap.size w w' := by
  have hbt := ht.two
  have HT := Lib.hid ht
  clear ht
  have hne := neq_noughts
  go_enter Tryd.func6, Tryd.ntmps6
  go_wp2
  go_loopw [3] (fun i wr => ∃ k : Nat, k ≤ 2 ∧ i = .int .i64 (k : Int) ∧ Below w.heap.size w wr) (fun i _ => 2 - (intOf i).toNat)
  case atStart => exact ⟨0, by omega, rfl, Below.refl _ _⟩
  case round =>
    obtain ⟨k, hk, rfl, hb⟩ := hrel
    have HB := Lib.hid hb
    have hz := hb.size
    clear hb
    by_cases hlt : k < 2
    · by_cases h1 : k = 0
      · subst h1
        go_wp2_with (refine wpList_build rfl 49 _ rfl (by kernel_rfl) ?_)
        rw [builtHash, Option.getD_some]
        have hnb := Lib.hid (show Nobody (wr.alloc (.cells (.bool false :: (s8s ⟨0, 0, 0, 0, 0, 0, 0, 0⟩ ++ (u8s noughts 64 ++ [.int .u64 0]))).toArray 49)) (some ⟨wr.heap.size, 0, none⟩) from .inr ⟨_, rfl, ((Box.made wr _ _).cell 0).trans rfl⟩)
        have hbb := Lib.hid (HB.out.alloc hz (.cells (.bool false :: (s8s ⟨0, 0, 0, 0, 0, 0, 0, 0⟩ ++ (u8s noughts 64 ++ [.int .u64 0]))).toArray 49))
        generalize wr.alloc (.cells (.bool false :: (s8s ⟨0, 0, 0, 0, 0, 0, 0, 0⟩ ++ (u8s noughts 64 ++ [.int .u64 0]))).toArray 49) = w1 at hnb hbb ⊢
        generalize (some (⟨wr.heap.size, 0, none⟩ : Addr)) = p at hnb ⊢
        refine (take_nobody p V w1 hnb.out).mono ?_
        rintro e w' ⟨rfl, rfl⟩
        go_wp2_with fail
        refine (sum_nobody p w1 hnb.out).mono ?_
        rintro e w2 ⟨rfl, hb2⟩
        have HN2 := Lib.hid (nobody_below hnb.out hb2)
        have HB2 := Lib.hid (hbb.out.trans (hb2.mono hbb.out.size))
        clear hb2
        go_wp2_with (first | ((with_reducible refine (len_nobody _ _ HN2.out).mono ?_); rintro e w' ⟨rfl, rfl⟩) | ((with_reducible refine (clone_nobody _ _ HN2.out).mono ?_); rintro e w' ⟨rfl, rfl⟩))
        go_roundw
        case rel => exact ⟨1, by omega, by go_num, HB2.out⟩
        case measure => simp [intOf]
      · obtain rfl : k = 1 := by omega
        go_wp2_with (refine wpList_build rfl 49 _ rfl (by kernel_rfl) ?_)
        rw [builtHash, Option.getD_some]
        have hbb := Lib.hid (HB.out.alloc hz (.cells (.bool false :: (s8s ⟨0, 0, 0, 0, 0, 0, 0, 0⟩ ++ (u8s noughts 64 ++ [.int .u64 0]))).toArray 49))
        generalize wr.alloc (.cells (.bool false :: (s8s ⟨0, 0, 0, 0, 0, 0, 0, 0⟩ ++ (u8s noughts 64 ++ [.int .u64 0]))).toArray 49) = w1 at hbb ⊢
        refine (take_nobody none V w1 (.inl rfl)).mono ?_
        rintro e w' ⟨rfl, rfl⟩
        go_wp2_with fail
        refine (sum_nobody none w1 (.inl rfl)).mono ?_
        rintro e w2 ⟨rfl, hb2⟩
        have HB2 := Lib.hid (hbb.out.trans (hb2.mono hbb.out.size))
        clear hb2
        go_wp2_with (first | ((with_reducible refine (len_nobody none _ (nobody_none _)).mono ?_); rintro e w' ⟨rfl, rfl⟩) | ((with_reducible refine (clone_nobody none _ (nobody_none _)).mono ?_); rintro e w' ⟨rfl, rfl⟩))
        go_roundw
        case rel => exact ⟨2, by omega, by go_num, HB2.out⟩
        case measure => simp [intOf]
    · obtain rfl : k = 2 := by omega
      go_wp2_with (refine (one_any _ (HT.out.below HB.out hbt)).mono ?_; rintro e w' ⟨rfl, hb⟩)
      go_ret
      exact ⟨rfl, HB.out.trans (hb.mono hz)⟩
end Go.Proofs.YtjdepjanijambaaDoor
