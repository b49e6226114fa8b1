/-
  mark.Cover, mark.Bare.
  The laws' small play.
  Small facts for the law of torn blocks.
-/
import Derived.Test.YthpfdenpgegheaaSlC
import Derived.Test.YthpfdenpgegheaaSlF
import Derived.Lib.SlBytesConst
import Derived.Laws.IdiomStrings
import Derived.Laws.BitsLemmas
namespace Go.Proofs.Ythpfdenpgegheaa
open Go.RowKit

set_option maxRecDepth 100000 in
set_option maxHeartbeats 4000000 in
theorem begun_says (w : World) (A : Option Addr) (c : Nat) (l : List UInt8) (hl : Lies w (fun _ => True) A 256 c (bc l)) (z : UInt8) :
    Calls Try.prog 30 #[.slice A 256 c, .int .u8 (z.toNat : Int)] w fun e w' => e = .returned (.slice (some ⟨w.heap.size, 0, none⟩) 256 256) ∧ Box w' w.heap.size 5 (bc (z :: l.drop 1)).toArray ∧ Below w.heap.size w w' := by
  have hll : l.length = 256 := by rw [← bc_length]; exact hl.len
  obtain ⟨i0, hi, hz0, hz1, hz2⟩ := info_parts Try.byteInfo
  have HL := Lib.hid (hl.weak (N' := fun b => b < w.heap.size) (fun b h _ => h))
  have HLL := Lib.hid hll
  clear hl hll
  go_enter Try.func30, Try.ntmps30
  go_upto_region 2 with (at_make; refine wpList_make_full w rfl _ _ 22 rfl w.heap.size 5 i0 _ 1 Try.underlying22 hi hz0 hz1 _ _ _ _ 256 rfl rfl rfl rfl (by rw [hz2]; omega) (by unfold maxLen; omega) (Nat.le_refl _) ?_; intro w1 hown1 hg1; rw [zero_made] at hown1; have HW1 := Lib.hid (And.intro (box_own hown1) ((Below.refl w.heap.size w).grown hg1 (Nat.le_refl _) (fun k hk => by cases hk))); clear hown1 hg1)
  have hl1 := HL.out.below HW1.out.2
  have H1 := Lib.hid hl1
  clear hl1
  go_wp2_with (refine wpList_copy_gen rfl (.tmp 7) (.tmp 8) rfl w.heap.size 0 256 256 256 c A rfl rfl 5 _ HW1.out.1 _ l H1.out (by simp [bc_length]) ?_; intro w2 hx2 hg2; rw [show min 256 256 = 256 by omega, laidAt_bc _ _ _ _ HLL.out.symm] at hx2; have hf2 := Box.frozen hx2 0; obtain ⟨u2, hc2⟩ : ∃ u, w2.cell? ⟨w.heap.size, 0, none⟩ = some u := (by rw [Box.cell hx2]; exact ⟨_, Array.getElem?_eq_getElem (by simp [bc_length, laid, HLL.out])⟩); have H2 := Lib.hid (And.intro hx2 (below_grown HW1.out.2 hg2 (Nat.le_refl _) HW1.out.2.size)); clear hx2 hg2)
  go_ret
  have e1 : (laid (List.replicate 256 0) 0 l).set 0 z = z :: l.drop 1 := by
    rw [laid, List.take_zero, List.nil_append, HLL.out, List.drop_replicate, List.replicate_zero, List.append_nil]
    match l, HLL.out with
    | k :: r, _ => rfl
  have h3 := box_set H2.out.1 0 z
  rw [e1] at h3
  exact ⟨rfl, h3, H2.out.2.setCell (p := ⟨w.heap.size, 0, none⟩) (Nat.le_refl _) _⟩
theorem cover_arg (w : World) (A : Option Addr) (n c : Nat) (hn : n ≠ 256) :
    Calls Try.prog 10 #[.slice A n c] w fun e w' => e = .returned (.tuple #[.slice none 0 0, .int .u8 0, .int .i64 2]) ∧ w' = w := by
  have l1 : ((n : Int) != 256) = true := by simp; omega
  go_enter Try.func10, Try.ntmps10
  go_wp2
  exact bodyPost_ret (v := .tuple #[.slice none 0 0, .int .u8 0, .int .i64 2]) (by simp [results, Try.results10, go_sem]) rfl ⟨rfl, rfl⟩
theorem bare_arg (w : World) (A : Option Addr) (n c : Nat) (hn : n ≠ 256) (z : UInt8) :
    Calls Try.prog 11 #[.slice A n c, .int .u8 (z.toNat : Int)] w fun e w' => e = .returned (.tuple #[.slice none 0 0, .int .i64 2]) ∧ w' = w := by
  have l1 : ((n : Int) != 256) = true := by simp; omega
  go_enter Try.func11, Try.ntmps11
  go_wp2
  go_ret2
  exact ⟨rfl, rfl⟩
set_option maxHeartbeats 4000000 in
theorem bare_form (w : World) (A : Option Addr) (c : Nat) (l : List UInt8) (hl : Lies w (fun _ => True) A 256 c (bc l)) (hk : l.headD 0 ≠ 3) (z : UInt8) :
    Calls Try.prog 11 #[.slice A 256 c, .int .u8 (z.toNat : Int)] w fun e w' => e = .returned (.tuple #[.slice none 0 0, .int .i64 11]) ∧ w' = w := by
  have hll : l.length = 256 := by rw [← bc_length]; exact hl.len
  obtain ⟨b, o, rfl, _, _, hc⟩ := hl.at (j := 0) (u := .int .u8 ((l.headD 0).toNat : Int)) (by match l, hll with | k :: r, _ => rfl)
  have l1 : (((l.headD 0).toNat : Int) != 3) = true := by
    have : (l.headD 0).toNat ≠ 3 := fun e => hk (UInt8.toNat_inj.1 e)
    rw [bne_iff_ne]
    intro e
    exact this (by omega)
  rw [Nat.add_zero] at hc
  clear hll hl hk
  generalize l.headD 0 = y at *
  go_enter Try.func11, Try.ntmps11
  go_wp2
  go_ret2
  exact ⟨rfl, rfl⟩
set_option maxHeartbeats 4000000 in
theorem bare_yes (w : World) (A : Option Addr) (c : Nat) (l : List UInt8) (hl : Lies w (fun _ => True) A 256 c (bc l)) (hk : l.headD 0 = 3) (z : UInt8) :
    Calls Try.prog 11 #[.slice A 256 c, .int .u8 (z.toNat : Int)] w fun e w' => e = .returned (.tuple #[.slice (some ⟨w.heap.size, 0, none⟩) 256 256, .int .i64 0]) ∧ Box w' w.heap.size 5 (bc (z :: l.drop 1)).toArray ∧ Below w.heap.size w w' := by
  have hll : l.length = 256 := by rw [← bc_length]; exact hl.len
  have hB := begun_says w A c l hl z
  obtain ⟨b, o, rfl, _, _, hc⟩ := hl.at (j := 0) (u := .int .u8 3) (by
    match l, hll, hk with
    | k :: r, _, hk =>
      have : k = 3 := hk
      rw [this]
      rfl)
  rw [Nat.add_zero] at hc
  clear hll hl hk
  go_enter Try.func11, Try.ntmps11
  go_wp2_with fail
  refine hB.mono ?_
  rintro e w1 ⟨rfl, hx1, hb1⟩
  have H1 := Lib.hid (And.intro hx1 hb1)
  clear hx1 hb1
  go_wp2
  go_ret2
  exact ⟨rfl, H1.out.1, H1.out.2⟩
set_option maxHeartbeats 4000000 in
theorem cover_yes (w : World) (A : Option Addr) (c : Nat) (l : List UInt8) (hl : Lies w (fun _ => True) A 256 c (bc l)) :
    Calls Try.prog 10 #[.slice A 256 c] w fun e w' => ∃ g, e = .returned (.tuple #[.slice (some ⟨g, 0, none⟩) 256 256, .int .u8 ((l.headD 0).toNat : Int), .int .i64 0]) ∧ w.heap.size ≤ g ∧ Box w' g 5 (bc (3 :: l.drop 1)).toArray ∧ Below w.heap.size w w' := by
  have hll : l.length = 256 := by rw [← bc_length]; exact hl.len
  obtain ⟨b, o, rfl, _, hbl, hc⟩ := hl.at (j := 0) (u := .int .u8 ((l.headD 0).toNat : Int)) (by match l, hll with | k :: r, _ => rfl)
  have hB := begun_says w.drew _ c l hl 3
  rw [Nat.add_zero] at hc
  have hd : w.drew.cell? ⟨b, o, none⟩ = some (.int .u8 ((l.headD 0).toNat : Int)) := hc
  clear hll hl hc
  generalize l.headD 0 = y at *
  go_enter Try.func10, Try.ntmps10
  go_upto_region 3 with fail
  refine wp_region_held_drew (S := fun w' => w'.cell? ⟨b, o, none⟩ = some (.int .u8 (y.toNat : Int))) (by kernel_rfl) hd (fun hHeld => ?_)
  refine take_run 0 8 (v := ?_) rfl rfl (by kernel_rfl) (by kernel_rfl) (by kernel_rfl) (fun _ _ _ h => h) (by rfl) ?_ (by assumption) ?_
  rotate_left
  · (intro wq hSw; have hS1 := hSw; go_simp; first | done | with_reducible rfl)
  simp only [Act.put, List.setIfInBounds_toArray, List.set_cons_zero, List.set_cons_succ]
  refine take_run 2 10 (v := ?_) rfl rfl (by kernel_rfl) (by kernel_rfl) (by kernel_rfl) (fun _ _ _ h => h) (by rfl) ?_ (by assumption) ?_
  rotate_left
  · (intro wq hSw; have hS1 := hSw; go_simp; first | done | with_reducible rfl)
  simp only [Act.put, List.setIfInBounds_toArray, List.set_cons_zero, List.set_cons_succ]
  refine take_run 3 11 (v := ?_) rfl rfl (by kernel_rfl) (by kernel_rfl) (by kernel_rfl) (fun _ _ _ h => h) (by rfl) ?_ (by assumption) ?_
  rotate_left
  · (intro wq hSw; have hS1 := hSw; go_simp; first | done | with_reducible rfl)
  simp only [Act.put, List.setIfInBounds_toArray, List.set_cons_zero, List.set_cons_succ]
  refine take_run 4 12 (v := ?_) rfl rfl (by kernel_rfl) (by kernel_rfl) (by kernel_rfl) (fun _ _ _ h => h) (by rfl) ?_ (by assumption) ?_
  rotate_left
  · (intro wq hSw; have hS1 := hSw; go_simp; first | done | with_reducible rfl)
  simp only [Act.put, List.setIfInBounds_toArray, List.set_cons_zero, List.set_cons_succ]
  refine wpAnyH_ready (rs := [1]) (by kernel_rfl) (by simp) ?_
  refine AllReadyH.cons rfl (fun K hK => ?_) AllReadyH.nil
  go_simp
  refine (hB).mono ?_
  rintro e w1 ⟨rfl, hx1, hb1⟩
  have hb1 : Below w.heap.size w w1 := ⟨hb1.os, hb1.tape, hb1.output, hb1.size, hb1.block⟩
  have hx1 : Box w1 w.heap.size 5 (bc (3 :: l.drop 1)).toArray := hx1
  have H1 := Lib.hid (And.intro hx1 hb1)
  refine hK.out _ _ ((hb1.cell (p := ⟨b, o, none⟩) hbl).trans hd) (fun hHeld => ?_)
  clear hK K
  clear hx1 hb1
  try simp only [Act.put, List.setIfInBounds_toArray, List.set_cons_zero, List.set_cons_succ]
  refine take_run 5 2 (v := ?_) rfl rfl (by kernel_rfl) (by kernel_rfl) (by kernel_rfl) (fun _ _ _ h => h) (by rfl) ?_ (by assumption) ?_
  rotate_left
  · (intro wq hSw; have hS1 := hSw; go_simp; first | done | with_reducible rfl)
  simp only [Act.put, List.setIfInBounds_toArray, List.set_cons_zero, List.set_cons_succ]
  refine take_run 6 3 (v := ?_) rfl rfl (by kernel_rfl) (by kernel_rfl) (by kernel_rfl) (fun _ _ _ h => h) (by rfl) ?_ (by assumption) ?_
  rotate_left
  · (intro wq hSw; have hS1 := hSw; go_simp; first | done | with_reducible rfl)
  simp only [Act.put, List.setIfInBounds_toArray, List.set_cons_zero, List.set_cons_succ]
  refine take_run 7 4 (v := ?_) rfl rfl (by kernel_rfl) (by kernel_rfl) (by kernel_rfl) (fun _ _ _ h => h) (by rfl) ?_ (by assumption) ?_
  rotate_left
  · (intro wq hSw; have hS1 := hSw; go_simp; first | done | with_reducible rfl)
  simp only [Act.put, List.setIfInBounds_toArray, List.set_cons_zero, List.set_cons_succ]
  refine wpAnyH_done (by kernel_rfl) ?_ _
  go_wp2
  exact bodyPost_ret (v := .tuple #[.slice (some ⟨w.heap.size, 0, none⟩) 256 256, .int .u8 (y.toNat : Int), .int .i64 0]) (by simp [results, Try.results10, go_sem]) rfl ⟨_, rfl, Nat.le_refl _, H1.out.1, H1.out.2⟩
end Go.Proofs.Ythpfdenpgegheaa
namespace Go.Proofs.Ythpfdenpgegheaa
open Go.RowKit

theorem const_lies (w : World) (l : List UInt8) : Lies (w.alloc (.cells (bc l).toArray 5 (l.length, l.length + 1))) (fun _ => True) (some ⟨w.heap.size, 0, none⟩) l.length l.length (bc l) :=
  ⟨bc_length l, Nat.le_refl _, fun _ => ⟨_, rfl, trivial, by simp, fun j u hu => by
    rw [Addr.add_mid, World.cell?_alloc_mark, Nat.zero_add, List.getElem?_toArray]
    exact hu⟩⟩
def m1 : Mk := ⟨1, 2, 3, by omega, by omega⟩
theorem one_bytes : (bc (sealed m1 [97, 98]))[18]? = some (.int .u8 2) ∧ (bc (sealed m1 [97, 98]))[19]? = some (.int .u8 97) ∧ (bc (sealed m1 [97, 98]))[255]? = some (.int .u8 3) := by
  refine ⟨?_, ?_, ?_⟩ <;> kernel_rfl
set_option maxRecDepth 100000 in
set_option maxHeartbeats 4000000 in
theorem one_says (w : World) : Calls Try.prog 12 #[] w fun e w' => e = .returned (.bool true) ∧ Below w.heap.size w w' := by
  obtain ⟨i0, hi, hz0, hz1, hz2⟩ := info_parts Try.byteInfo
  obtain ⟨w1, hw1⟩ : ∃ w1, w.alloc (.cells #[.int .u8 0, .int .u64 0, .int .u64 0] 25) = w1 := ⟨_, rfl⟩
  have hb1 : Below w.heap.size w w1 := by rw [← hw1]; exact (Below.refl _ w).alloc (Nat.le_refl _) _
  have hm1 : Box w1 w.heap.size 25 (mv Mk.zero) := by rw [← hw1]; exact Box.made w _ _
  obtain ⟨w2, hw2⟩ : ∃ w2, w1.setRow w.heap.size (mv m1) = w2 := ⟨_, rfl⟩
  have hm2 : Box w2 w.heap.size 25 (mv m1) := by rw [← hw2]; exact setRow_heap _ _ _ _ _ _ hm1
  have hb2 : Below w.heap.size w w2 := hb1.trans (by rw [← hw2]; exact (Below.refl _ w1).grown (grown_row (grown_refl _ (some w.heap.size)) _) hb1.size (fun k e => by injection e with e; omega))
  obtain ⟨w3, hw3⟩ : ∃ x, w2.alloc (.cells #[.int .u8 97, .int .u8 98] 5 (2, 3)) = x := ⟨_, rfl⟩
  have hb3 : Below w2.heap.size w2 w3 := by rw [← hw3]; exact (Below.refl _ w2).alloc (Nat.le_refl _) _
  have hl3 : Lies w3 (fun _ => True) (some ⟨w2.heap.size, 0, none⟩) 2 2 (bc [97, 98]) := by rw [← hw3]; exact const_lies w2 [97, 98]
  have hcv := fun (w : World) (C : Array Value) (n c : Nat) => Lib.run_convert_bytes_const (P := Try.prog) w 22 5 C n c Try.underlying22 Try.underlying5
  have HM := Lib.hid hm1
  have HW := Lib.hid hw2
  have HM2 := Lib.hid hm2
  have H3 := Lib.hid (And.intro (hb2.trans (hb3.mono hb2.size)) (And.intro (Box.below hm2 hb3 hm2.lt) hl3))
  clear hb1 hm1 hw2 hm2 hb2 hb3 hl3
  go_enter Try.func12, Try.ntmps12
  go_wp2_with (first
    | (refine wpList_store_row rfl 25 _ _ rfl w.heap.size (mv m1) rfl rfl 25 _ HM.out (by rw [mv_size]; exact mkInfo) rfl (mv_one _) ?_; rw [HW.out])
    | (refine wpList_load_row rfl 25 _ rfl w.heap.size rfl 25 _ (0, 0) _ HM2.out Try.underlying25 rfl (by rw [mv_size]; exact mkInfo) ?_))
  refine (seal_yes w3 m1 rfl _ 2 2 [97, 98] H3.out.2.2 (by omega)).mono ?_
  rintro e w4 ⟨g, rfl, hg, hx4, hb4⟩
  have H4 := Lib.hid (And.intro (H3.out.1.trans (hb4.mono H3.out.1.size)) (And.intro (Box.below H3.out.2.1 hb4 H3.out.2.1.lt) hx4))
  have hl4 := lies_box (N := fun _ => True) hx4 trivial (sealed_length m1 [97, 98] (by decide))
  clear hg hx4 hb4 H3 hw3 hw1 HM HW HM2 hcv
  go_wp2_with fail
  refine (open_says w4 _ 256 _ hl4).mono ?_
  rintro e w5 ⟨_, hy, hb5⟩
  obtain ⟨gs, rfl, hgs, hx5⟩ := hy m1 [97, 98] (opens_sealed m1 [97, 98] (by decide) rfl)
  have hx5 : Box w5 gs 5 (bc [97, 98]).toArray := hx5
  obtain ⟨w6, hw6⟩ : ∃ x, w5.alloc (.cells #[.int .u8 0, .int .u64 0, .int .u64 0] 25) = x := ⟨_, rfl⟩
  have hb6 : Below w5.heap.size w5 w6 := by rw [← hw6]; exact (Below.refl _ w5).alloc (Nat.le_refl _) _
  have hm6 : Box w6 w5.heap.size 25 (mv Mk.zero) := by rw [← hw6]; exact Box.made w5 _ _
  obtain ⟨w7, hw7⟩ : ∃ x, w6.setRow w5.heap.size (mv m1) = x := ⟨_, rfl⟩
  have hm7 : Box w7 w5.heap.size 25 (mv m1) := by rw [← hw7]; exact setRow_heap _ _ _ _ _ _ hm6
  have hb7 : Below w5.heap.size w5 w7 := hb6.trans (by rw [← hw7]; exact (Below.refl _ w6).grown (grown_row (grown_refl _ (some w5.heap.size)) _) hb6.size (fun k e => by injection e with e; omega))
  have hbz := hb5.trans (hb7.mono hb5.size)
  have hcs := conv_lies (lies_box (N := fun _ => True) (Box.below hx5 hb7 hx5.lt) trivial (n := 2) rfl)
  have hxb := Box.below H4.out.2.2 hbz H4.out.2.2.lt
  have hxm := Box.below H4.out.2.1 hbz H4.out.2.1.lt
  have c18 : w7.cell? ⟨g, 18, none⟩ = some (.int .u8 2) := (Box.cell hxb 18).trans (by simpa using one_bytes.1)
  have c19 : w7.cell? ⟨g, 19, none⟩ = some (.int .u8 97) := (Box.cell hxb 19).trans (by simpa using one_bytes.2.1)
  have c255 : w7.cell? ⟨g, 255, none⟩ = some (.int .u8 3) := (Box.cell hxb 255).trans (by simpa using one_bytes.2.2)
  have a0 : w7.cell? ⟨w.heap.size, 0, none⟩ = some (.int .u8 1) := (Box.cell hxm 0).trans rfl
  have a1 : w7.cell? ⟨w.heap.size, 1, none⟩ = some (.int .u64 2) := (Box.cell hxm 1).trans rfl
  have a2 : w7.cell? ⟨w.heap.size, 2, none⟩ = some (.int .u64 3) := (Box.cell hxm 2).trans rfl
  have x0 : w7.cell? ⟨w5.heap.size, 0, none⟩ = some (.int .u8 1) := (Box.cell hm7 0).trans rfl
  have x1 : w7.cell? ⟨w5.heap.size, 1, none⟩ = some (.int .u64 2) := (Box.cell hm7 1).trans rfl
  have x2 : w7.cell? ⟨w5.heap.size, 2, none⟩ = some (.int .u64 3) := (Box.cell hm7 2).trans rfl
  have HM6 := Lib.hid hm6
  have HW7 := Lib.hid hw7
  have HB := Lib.hid (H4.out.1.trans (hbz.mono H4.out.1.size))
  clear hl4 hgs hx5 hb5 hb6 hm6 hw7 hm7 hb7 hbz hxb hxm H4 hy
  go_wp2_with (refine wpList_store_row rfl 25 _ _ rfl w5.heap.size (mv m1) rfl rfl 25 _ HM6.out (by rw [mv_size]; exact mkInfo) rfl (mv_one _) ?_; rw [HW7.out])
  go_ret
  exact ⟨rfl, HB.out⟩
end Go.Proofs.Ythpfdenpgegheaa
namespace Go.Proofs.Ythpfdenpgegheaa
open Go.RowKit

theorem and255 (n : Int) : bits .and .i64 n 255 = n % 256 := by
  have h : (BitVec.ofInt 64 255).toNat = 2 ^ 8 - 1 := by decide
  have key : (BitVec.ofInt 64 n &&& BitVec.ofInt 64 255).toNat = (n % ((2 ^ 64 : Nat) : Int)).toNat % 2 ^ 8 := by
    rw [BitVec.toNat_and, BitVec.toNat_ofInt, h, Nat.and_two_pow_sub_one_eq_mod]
  show IntKind.i64.wrap ((BitVec.ofInt 64 n &&& BitVec.ofInt 64 255).toNat : Nat) = n % 256
  rw [key, IntKind.wrap_i64]
  omega
theorem u8_wrapped (n : Int) : ∃ z : UInt8, IntKind.u8.wrap n = (z.toNat : Int) := by
  refine ⟨UInt8.ofNat (n % 256).toNat, ?_⟩
  rw [IntKind.wrap_u8, UInt8.toNat_ofNat']
  omega
set_option maxRecDepth 100000 in
/-- '[]byte(s)'. -/
theorem bytes_of_str (w : World) (l : List UInt8) : ∃ c w', (convert 9 22 (.string ⟨l.toArray⟩)).run Try.prog w = .ok (.slice (some ⟨w.heap.size, 0, none⟩) l.length c) w' ∧ Below w.heap.size w w' ∧ Lies w' (fun _ => True) (some ⟨w.heap.size, 0, none⟩) l.length c (bc l) := by
  have h := run_bytes_of_string (P := Try.prog) w 9 22 5 ⟨l.toArray⟩ Try.underlying9 Try.underlying22 Try.underlying5
  rw [str_size] at h
  refine ⟨_, _, h, (Below.refl _ w).drew.alloc (Nat.le_refl _) _, bc_length l, grownCap_ge w _ 0 _, fun _ => ⟨_, rfl, trivial, by simp, fun j u hu => ?_⟩⟩
  rw [Addr.add_mid, Nat.zero_add]
  have hj : j < l.length := by
    have := (List.getElem?_eq_some_iff.1 hu).1
    rwa [bc_length] at this
  have hr := bytesRow_at ⟨l.toArray⟩ (grownCap w l.length 0 5) j (by simpa using hj)
  have hu2 : u = .int .u8 ((l[j]'hj).toNat : Int) := by
    rw [bc, List.getElem?_map, List.getElem?_eq_getElem hj] at hu
    injection hu with hu
    exact hu.symm
  rw [hu2]
  have := World.cell?_alloc_mark w.drew (bytesRow ⟨l.toArray⟩ (grownCap w l.length 0 5)) 5 ((bytesRow ⟨l.toArray⟩ (grownCap w l.length 0 5)).size, (bytesRow ⟨l.toArray⟩ (grownCap w l.length 0 5)).size + 1) j
  exact this.trans (by simpa using hr)
/-- The mark that the law takes. -/
def fixM (m : Mk) : Mk := if m.may then m else ⟨1, m.epoch, m.seq, m.he, m.hs⟩
theorem fixM_may (m : Mk) : (fixM m).may = true := by
  unfold fixM
  cases h : m.may
  · rfl
  · simpa using h
/-- What lies ahead of the torn block: zeros, or sealed by another mark. -/
def Was (m : Mk) (y : List UInt8) : Prop := y.length = 256 ∧ (y = List.replicate 256 0 ∨ ∃ o c, c.length ≤ 220 ∧ o ≠ m ∧ y = sealed o c)
theorem below_drewN' {B : Nat} {a b : World} (h : Below B a b) (n : Nat) : Below B a (b.drewN n) := ⟨h.os, h.tape, h.output, h.size, h.block⟩
theorem mod_byte (n : Int) : ∃ z : UInt8, n % 256 = (z.toNat : Int) := by
  refine ⟨UInt8.ofNat (n % 256).toNat, ?_⟩
  rw [UInt8.toNat_ofNat']
  omega
/-- A text out of a slice, as one step of a region whose callees leave all that lay. -/
theorem wpQuiet_conv {P : Program} {ops : Array Oper} {C : World → Prop} {K : Act → Prop} {o : Oper} {rest : List Oper} {a : Act} (hw : Region.wanted o (yielded ops a.tmps) = true) (s t : TypeId) (x : Operand) (ho : o.op = .convert s t x) (v : Value) (hx : a.eval x = v) (u : Value)
    (hc : ∀ w, C w → (convert s t v).run P w = .ok u w) (h : wpQuiet P ops C K rest (a.put o.dst u)) : wpQuiet P ops C K (o :: rest) a := by
  simp only [wpQuiet, hw, if_true, Oper.quiet, Oper.quietAt]
  refine ⟨_, fun w hC => ?_, h⟩
  unfold execOp
  simp only [ho, hx, Sem.run_bind, Result.andThen_ok, hc w hC, Sem.run_pure]
  exact ⟨rfl, rfl⟩
theorem conv_grows {W : World} {N : Nat → Prop} {A : Option Addr} {n c : Nat} {l : List UInt8} (h : Lies W N A n c (bc l)) : ∀ u, (∃ p : Grows W, u = p.val) → (convert 22 9 (.slice A n c)).run Try.prog u = .ok (.string ⟨l.toArray⟩) u := by
  rintro _ ⟨p, rfl⟩
  exact conv_lies (h.below p.prop)
theorem str_inj {l k : List UInt8} (h : (⟨l.toArray⟩ : ByteArray) = ⟨k.toArray⟩) : l = k := by
  have := congrArg (fun b : ByteArray => b.data.toList) h
  simpa using this
/-- What a second Seal comes to. -/
def Two (o : Mk) (v e : Value) (wx : World) : Prop :=
  (o.may = false ∧ e = .int .i64 2 ∧ v = .slice none 0 0) ∨ (o.may = true ∧ ∃ g c, e = .int .i64 0 ∧ v = .slice (some ⟨g, 0, none⟩) 256 256 ∧ c.length ≤ 220 ∧ Box wx g 5 (bc (sealed o c)).toArray)
theorem Two.below {o : Mk} {v e : Value} {wx wy : World} (h : Two o v e wx) (hb : Below wx.heap.size wx wy) : Two o v e wy :=
  h.imp id (fun ⟨h1, g, c, h2, h3, h4, h5⟩ => ⟨h1, g, c, h2, h3, h4, Box.below h5 hb h5.lt⟩)
/-- What Open of a torn block comes to, laid. -/
def Opd (l : List UInt8) (v17 v18 v19 : Value) (wx : World) : Prop :=
  ∃ b17, v17 = .pointer (some ⟨b17, 0, none⟩) ∧ ((opens l = none ∧ v18 = .slice none 0 0 ∧ v19 = .int .i64 11) ∨
    (∃ z s g, opens l = some (z, s) ∧ v18 = .slice (some ⟨g, 0, none⟩) s.length s.length ∧ v19 = .int .i64 0 ∧ Box wx g 5 (bc s).toArray ∧ Box wx b17 25 (mv z)))
theorem was_ne {m : Mk} (hm : m.may = true) {b : List UInt8} (hb : b.length ≤ 220) {y : List UInt8} (hy : Was m y) : sealed m b ≠ y := by
  rintro rfl
  have h1 := (sealed_tail m b hb).2
  rcases hy.2 with h | ⟨o, c, hc, hom, h⟩
  · rw [h, List.take_replicate] at h1
    have h0 : m.bytes.head? = some m.kind := rfl
    rw [← h1] at h0
    simp at h0
    rw [Mk.may, ← h0] at hm
    simp at hm
  · rw [h, (sealed_tail o c hc).2] at h1
    exact hom (bytes_inj h1)
theorem opens_covered (y : List UInt8) : opens (3 :: y.drop 1) = none := by
  rw [opens, if_neg]
  rintro ⟨h, _⟩
  rw [twin, Bool.and_eq_true] at h
  have : (markAt (3 :: y.drop 1)).may = false := rfl
  rw [this] at h
  simp at h
theorem uncovered (y : List UInt8) (h : y.length = 256) : y.headD 0 :: (3 :: y.drop 1).drop 1 = y := by
  match y, h with
  | a :: r, _ => rfl
end Go.Proofs.Ythpfdenpgegheaa
