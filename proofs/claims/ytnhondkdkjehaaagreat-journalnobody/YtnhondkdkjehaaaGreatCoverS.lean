/-
  mark.Cover, mark.Bare.
-/
import Derived.Test.YtnhondkdkjehaaaGreatSlC
namespace Go.Proofs.YtnhondkdkjehaaaGreat
open Go.RowKit

set_option maxRecDepth 100000 in
set_option maxHeartbeats 4000000 in
theorem begun_says (w : World) (A : Option Addr) (c : Nat) (l : List UInt8) (hl : Lies w (fun _ => True) A 256 c (bc l)) (z : UInt8) :
    Calls Tryz.prog 119 #[.slice A 256 c, .int .u8 (z.toNat : Int)] w fun e w' => e = .returned (.slice (some ⟨w.heap.size, 0, none⟩) 256 256) ∧ Box w' w.heap.size 5 (bc (z :: l.drop 1)).toArray ∧ Below w.heap.size w w' := by
  have hll : l.length = 256 := by rw [← bc_length]; exact hl.len
  obtain ⟨i0, hi, hz0, hz1, hz2⟩ := info_parts Tryz.byteInfo
  have HL := Lib.hid (hl.weak (N' := fun b => b < w.heap.size) (fun b h _ => h))
  have HLL := Lib.hid hll
  clear hl hll
  go_enter Tryz.func119, Tryz.ntmps119
  go_upto_region 2 with (at_make; refine wpList_make_full w rfl _ _ 49 rfl w.heap.size 5 i0 _ 1 Tryz.underlying49 hi hz0 hz1 _ _ _ _ 256 rfl rfl rfl rfl (by rw [hz2]; omega) (by unfold maxLen; omega) (Nat.le_refl _) ?_; intro w1 hown1 hg1; rw [zero_made] at hown1; have HW1 := Lib.hid (And.intro (box_own hown1) ((Below.refl w.heap.size w).grown hg1 (Nat.le_refl _) (fun k hk => by cases hk))); clear hown1 hg1)
  have hl1 := HL.out.below HW1.out.2
  have H1 := Lib.hid hl1
  clear hl1
  go_wp2_with (refine wpList_copy_gen rfl (.tmp 7) (.tmp 8) rfl w.heap.size 0 256 256 256 c A rfl rfl 5 _ HW1.out.1 _ l H1.out (by simp [bc_length]) ?_; intro w2 hx2 hg2; rw [show min 256 256 = 256 by omega, laidAt_bc _ _ _ _ HLL.out.symm] at hx2; have hf2 := Box.frozen hx2 0; obtain ⟨u2, hc2⟩ : ∃ u, w2.cell? ⟨w.heap.size, 0, none⟩ = some u := (by rw [Box.cell hx2]; exact ⟨_, Array.getElem?_eq_getElem (by simp [bc_length, laid, HLL.out])⟩); have H2 := Lib.hid (And.intro hx2 (below_grown HW1.out.2 hg2 (Nat.le_refl _) HW1.out.2.size)); clear hx2 hg2)
  go_ret
  have e1 : (laid (List.replicate 256 0) 0 l).set 0 z = z :: l.drop 1 := by
    rw [laid, List.take_zero, List.nil_append, HLL.out, List.drop_replicate, List.replicate_zero, List.append_nil]
    match l, HLL.out with
    | k :: r, _ => rfl
  have h3 := box_set H2.out.1 0 z
  rw [e1] at h3
  exact ⟨rfl, h3, H2.out.2.setCell (p := ⟨w.heap.size, 0, none⟩) (Nat.le_refl _) _⟩
theorem cover_arg (w : World) (A : Option Addr) (n c : Nat) (hn : n ≠ 256) :
    Calls Tryz.prog 107 #[.slice A n c] w fun e w' => e = .returned (.tuple #[.slice none 0 0, .int .u8 0, .int .i64 2]) ∧ w' = w := by
  have l1 : ((n : Int) != 256) = true := by simp; omega
  go_enter Tryz.func107, Tryz.ntmps107
  go_wp2
  exact bodyPost_ret (v := .tuple #[.slice none 0 0, .int .u8 0, .int .i64 2]) (by simp [results, Tryz.results107, go_sem]) rfl ⟨rfl, rfl⟩
theorem bare_arg (w : World) (A : Option Addr) (n c : Nat) (hn : n ≠ 256) (z : UInt8) :
    Calls Tryz.prog 100 #[.slice A n c, .int .u8 (z.toNat : Int)] w fun e w' => e = .returned (.tuple #[.slice none 0 0, .int .i64 2]) ∧ w' = w := by
  have l1 : ((n : Int) != 256) = true := by simp; omega
  go_enter Tryz.func100, Tryz.ntmps100
  go_wp2
  go_ret2
  exact ⟨rfl, rfl⟩
set_option maxHeartbeats 4000000 in
theorem bare_form (w : World) (A : Option Addr) (c : Nat) (l : List UInt8) (hl : Lies w (fun _ => True) A 256 c (bc l)) (hk : l.headD 0 ≠ 3) (z : UInt8) :
    Calls Tryz.prog 100 #[.slice A 256 c, .int .u8 (z.toNat : Int)] w fun e w' => e = .returned (.tuple #[.slice none 0 0, .int .i64 11]) ∧ w' = w := by
  have hll : l.length = 256 := by rw [← bc_length]; exact hl.len
  obtain ⟨b, o, rfl, _, _, hc⟩ := hl.at (j := 0) (u := .int .u8 ((l.headD 0).toNat : Int)) (by match l, hll with | k :: r, _ => rfl)
  have l1 : (((l.headD 0).toNat : Int) != 3) = true := by
    have : (l.headD 0).toNat ≠ 3 := fun e => hk (UInt8.toNat_inj.1 e)
    rw [bne_iff_ne]
    intro e
    exact this (by omega)
  rw [Nat.add_zero] at hc
  clear hll hl hk
  generalize l.headD 0 = y at *
  go_enter Tryz.func100, Tryz.ntmps100
  go_wp2
  go_ret2
  exact ⟨rfl, rfl⟩
set_option maxHeartbeats 4000000 in
theorem bare_yes (w : World) (A : Option Addr) (c : Nat) (l : List UInt8) (hl : Lies w (fun _ => True) A 256 c (bc l)) (hk : l.headD 0 = 3) (z : UInt8) :
    Calls Tryz.prog 100 #[.slice A 256 c, .int .u8 (z.toNat : Int)] w fun e w' => e = .returned (.tuple #[.slice (some ⟨w.heap.size, 0, none⟩) 256 256, .int .i64 0]) ∧ Box w' w.heap.size 5 (bc (z :: l.drop 1)).toArray ∧ Below w.heap.size w w' := by
  have hll : l.length = 256 := by rw [← bc_length]; exact hl.len
  have hB := begun_says w A c l hl z
  obtain ⟨b, o, rfl, _, _, hc⟩ := hl.at (j := 0) (u := .int .u8 3) (by
    match l, hll, hk with
    | k :: r, _, hk =>
      have : k = 3 := hk
      rw [this]
      rfl)
  rw [Nat.add_zero] at hc
  clear hll hl hk
  go_enter Tryz.func100, Tryz.ntmps100
  go_wp2_with fail
  refine hB.mono ?_
  rintro e w1 ⟨rfl, hx1, hb1⟩
  have H1 := Lib.hid (And.intro hx1 hb1)
  clear hx1 hb1
  go_wp2
  go_ret2
  exact ⟨rfl, H1.out.1, H1.out.2⟩
set_option maxHeartbeats 4000000 in
theorem cover_yes (w : World) (A : Option Addr) (c : Nat) (l : List UInt8) (hl : Lies w (fun _ => True) A 256 c (bc l)) :
    Calls Tryz.prog 107 #[.slice A 256 c] w fun e w' => ∃ g, e = .returned (.tuple #[.slice (some ⟨g, 0, none⟩) 256 256, .int .u8 ((l.headD 0).toNat : Int), .int .i64 0]) ∧ w.heap.size ≤ g ∧ Box w' g 5 (bc (3 :: l.drop 1)).toArray ∧ Below w.heap.size w w' := by
  have hll : l.length = 256 := by rw [← bc_length]; exact hl.len
  obtain ⟨b, o, rfl, _, hbl, hc⟩ := hl.at (j := 0) (u := .int .u8 ((l.headD 0).toNat : Int)) (by match l, hll with | k :: r, _ => rfl)
  have hB := begun_says w.drew _ c l hl 3
  rw [Nat.add_zero] at hc
  have hd : w.drew.cell? ⟨b, o, none⟩ = some (.int .u8 ((l.headD 0).toNat : Int)) := hc
  clear hll hl hc
  generalize l.headD 0 = y at *
  go_enter Tryz.func107, Tryz.ntmps107
  go_upto_region 3 with fail
  refine wp_region_held_drew (S := fun w' => w'.cell? ⟨b, o, none⟩ = some (.int .u8 (y.toNat : Int))) (by kernel_rfl) hd (fun hHeld => ?_)
  refine take_run 0 8 (v := ?_) rfl rfl (by kernel_rfl) (by kernel_rfl) (by kernel_rfl) (fun _ _ _ h => h) (by rfl) ?_ (by assumption) ?_
  rotate_left
  · (intro wq hSw; have hS1 := hSw; go_simp; first | done | with_reducible rfl)
  simp only [Act.put, List.setIfInBounds_toArray, List.set_cons_zero, List.set_cons_succ]
  refine take_run 2 10 (v := ?_) rfl rfl (by kernel_rfl) (by kernel_rfl) (by kernel_rfl) (fun _ _ _ h => h) (by rfl) ?_ (by assumption) ?_
  rotate_left
  · (intro wq hSw; have hS1 := hSw; go_simp; first | done | with_reducible rfl)
  simp only [Act.put, List.setIfInBounds_toArray, List.set_cons_zero, List.set_cons_succ]
  refine take_run 3 11 (v := ?_) rfl rfl (by kernel_rfl) (by kernel_rfl) (by kernel_rfl) (fun _ _ _ h => h) (by rfl) ?_ (by assumption) ?_
  rotate_left
  · (intro wq hSw; have hS1 := hSw; go_simp; first | done | with_reducible rfl)
  simp only [Act.put, List.setIfInBounds_toArray, List.set_cons_zero, List.set_cons_succ]
  refine take_run 4 12 (v := ?_) rfl rfl (by kernel_rfl) (by kernel_rfl) (by kernel_rfl) (fun _ _ _ h => h) (by rfl) ?_ (by assumption) ?_
  rotate_left
  · (intro wq hSw; have hS1 := hSw; go_simp; first | done | with_reducible rfl)
  simp only [Act.put, List.setIfInBounds_toArray, List.set_cons_zero, List.set_cons_succ]
  refine wpAnyH_ready (rs := [1]) (by kernel_rfl) (by simp) ?_
  refine AllReadyH.cons rfl (fun K hK => ?_) AllReadyH.nil
  go_simp
  refine (hB).mono ?_
  rintro e w1 ⟨rfl, hx1, hb1⟩
  have hb1 : Below w.heap.size w w1 := ⟨hb1.os, hb1.tape, hb1.output, hb1.size, hb1.block⟩
  have hx1 : Box w1 w.heap.size 5 (bc (3 :: l.drop 1)).toArray := hx1
  have H1 := Lib.hid (And.intro hx1 hb1)
  refine hK.out _ _ ((hb1.cell (p := ⟨b, o, none⟩) hbl).trans hd) (fun hHeld => ?_)
  clear hK K
  clear hx1 hb1
  try simp only [Act.put, List.setIfInBounds_toArray, List.set_cons_zero, List.set_cons_succ]
  refine take_run 5 2 (v := ?_) rfl rfl (by kernel_rfl) (by kernel_rfl) (by kernel_rfl) (fun _ _ _ h => h) (by rfl) ?_ (by assumption) ?_
  rotate_left
  · (intro wq hSw; have hS1 := hSw; go_simp; first | done | with_reducible rfl)
  simp only [Act.put, List.setIfInBounds_toArray, List.set_cons_zero, List.set_cons_succ]
  refine take_run 6 3 (v := ?_) rfl rfl (by kernel_rfl) (by kernel_rfl) (by kernel_rfl) (fun _ _ _ h => h) (by rfl) ?_ (by assumption) ?_
  rotate_left
  · (intro wq hSw; have hS1 := hSw; go_simp; first | done | with_reducible rfl)
  simp only [Act.put, List.setIfInBounds_toArray, List.set_cons_zero, List.set_cons_succ]
  refine take_run 7 4 (v := ?_) rfl rfl (by kernel_rfl) (by kernel_rfl) (by kernel_rfl) (fun _ _ _ h => h) (by rfl) ?_ (by assumption) ?_
  rotate_left
  · (intro wq hSw; have hS1 := hSw; go_simp; first | done | with_reducible rfl)
  simp only [Act.put, List.setIfInBounds_toArray, List.set_cons_zero, List.set_cons_succ]
  refine wpAnyH_done (by kernel_rfl) ?_ _
  go_wp2
  exact bodyPost_ret (v := .tuple #[.slice (some ⟨w.heap.size, 0, none⟩) 256 256, .int .u8 (y.toNat : Int), .int .i64 0]) (by simp [results, Tryz.results107, go_sem]) rfl ⟨_, rfl, Nat.le_refl _, H1.out.1, H1.out.2⟩
end Go.Proofs.YtnhondkdkjehaaaGreat
