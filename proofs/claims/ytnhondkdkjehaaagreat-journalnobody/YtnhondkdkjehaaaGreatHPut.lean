/-
  super.Head.Put.
-/
import Derived.Test.YtnhondkdkjehaaaGreatSSm
import Derived.Test.YtnhondkdkjehaaaGreatOpensC0
import Derived.Test.YtnhondkdkjehaaaGreatSlC
import Derived.Test.YtnhondkdkjehaaaGreatSteps
import Derived.Test.YtnhondkdkjehaaaGreatSlB
namespace Go.Proofs.YtnhondkdkjehaaaGreat
open Go.RowKit

set_option linter.unusedVariables false
set_option linter.unusedSimpArgs false
set_option maxRecDepth 100000 in
set_option maxHeartbeats 4000000 in
theorem hput_no (w : World) (h : Hd) (hr : h.rightB 4096 = false) : Calls Tryz.prog 102 #[.agg (hv h)] w fun e w' => e = .returned (.tuple #[.slice none 0 0, .int .i64 2]) ∧ Below w.heap.size w w' := by
  obtain ⟨w1, hw1⟩ : ∃ x, w.alloc (.cells #[.int .u64 (h.gen : Int), .int .u64 (h.epoch : Int), .int .i64 h.pos, .int .u64 (h.seq : Int), .int .i64 h.log] 78) = x := ⟨_, rfl⟩
  have HB := Lib.hid (show Below w.heap.size w w1 by rw [← hw1]; exact (Below.refl _ w).alloc (Nat.le_refl _) _)
  have H1 := Lib.hid (show Box w1 w.heap.size 78 (hv h) by rw [← hw1]; exact Box.made w _ _)
  go_enter Tryz.func102, Tryz.ntmps102
  simp only [hv]
  go_wp2_with (refine wpList_load_row rfl 78 _ rfl w.heap.size rfl 78 _ (0, 0) _ H1.out Tryz.underlying78 rfl (by rw [hv_size]; exact hdInfo) ?_)
  refine (right_says w1 h 4096 (by omega)).mono ?_
  rw [hr]
  rintro e w2 ⟨rfl, hb2⟩
  have HZ := Lib.hid (HB.out.trans (hb2.mono HB.out.size))
  clear hb2
  go_wp2
  go_ret2
  exact ⟨rfl, HZ.out⟩
/-- What Put hands on. -/
def HPutYes (w : World) (h : Hd) (e : Ending) (w' : World) : Prop := ∃ g, e = .returned (.tuple #[.slice (some ⟨g, 0, none⟩) 256 256, .int .i64 0]) ∧ w.heap.size ≤ g ∧ Box w' g 5 (bc h.block).toArray ∧ Below w.heap.size w w'
set_option maxRecDepth 100000 in
set_option maxHeartbeats 8000000 in
theorem hput_yes (w : World) (h : Hd) (hr : h.rightB 4096 = true) : Calls Tryz.prog 102 #[.agg (hv h)] w (HPutYes w h) := by
  have hq := Hd.right_iff.1 hr
  have hp0 : 0 ≤ h.pos := hq.2.2.2.2.2.1
  have hl0 : 0 ≤ h.log := by have := hq.2.2.2.1; omega
  clear hq
  obtain ⟨w1, hw1⟩ : ∃ x, w.alloc (.cells #[.int .u64 (h.gen : Int), .int .u64 (h.epoch : Int), .int .i64 h.pos, .int .u64 (h.seq : Int), .int .i64 h.log] 78) = x := ⟨_, rfl⟩
  have HB := Lib.hid (show Below w.heap.size w w1 by rw [← hw1]; exact (Below.refl _ w).alloc (Nat.le_refl _) _)
  have H1 := Lib.hid (show Box w1 w.heap.size 78 (hv h) by rw [← hw1]; exact Box.made w _ _)
  go_enter Tryz.func102, Tryz.ntmps102
  simp only [hv]
  go_wp2_with (refine wpList_load_row rfl 78 _ rfl w.heap.size rfl 78 _ (0, 0) _ H1.out Tryz.underlying78 rfl (by rw [hv_size]; exact hdInfo) ?_)
  refine (right_says w1 h 4096 (by omega)).mono ?_
  rw [hr]
  rintro r2 w2 ⟨rfl, hb2⟩
  have H2 := Lib.hid (Box.below H1.out hb2 H1.out.lt)
  replace HB := Lib.hid (HB.out.trans (hb2.mono HB.out.size))
  clear hb2 hr H1 hw1
  obtain ⟨g, e, pos, s, log, hg, he, hs, hp, hl⟩ := h
  obtain ⟨p, rfl⟩ : ∃ p : Nat, pos = (p : Int) := ⟨pos.toNat, by simp only at hp0; omega⟩
  obtain ⟨lg, rfl⟩ : ∃ p : Nat, log = (p : Int) := ⟨log.toNat, by simp only at hl0; omega⟩
  clear hp0 hl0
  have hlt := H2.out.lt
  have c0 := cell_grows (p := ⟨w.heap.size, 0, none⟩) (v := .int .u64 (g : Int)) hlt ((Box.cell H2.out 0).trans rfl)
  have c1 := cell_grows (p := ⟨w.heap.size, 1, none⟩) (v := .int .u64 (e : Int)) hlt ((Box.cell H2.out 1).trans rfl)
  have c2 := cell_grows (p := ⟨w.heap.size, 2, none⟩) (v := .int .i64 (p : Int)) hlt ((Box.cell H2.out 2).trans rfl)
  have c3 := cell_grows (p := ⟨w.heap.size, 3, none⟩) (v := .int .u64 (s : Int)) hlt ((Box.cell H2.out 3).trans rfl)
  have c4 := cell_grows (p := ⟨w.heap.size, 4, none⟩) (v := .int .i64 (lg : Int)) hlt ((Box.cell H2.out 4).trans rfl)
  have wr1 : IntKind.u64.wrap (p : Int) = (p : Int) := by rw [IntKind.wrap_u64]; omega
  have wr2 : IntKind.u64.wrap (lg : Int) = (lg : Int) := by rw [IntKind.wrap_u64]; omega
  have HN4 := Lib.hid (show ∀ x ∈ [e, p, s, lg], x < 18446744073709551616 by
    intro x hx
    simp only [List.mem_cons, List.not_mem_nil, or_false] at hx
    rcases hx with rfl | rfl | rfl | rfl <;> omega)
  clear hlt
  go_upto_region 3 with fail
  refine wp_region_held_drew (S := fun u => ∃ p : Grows w2, u = p.val) (by kernel_rfl) ⟨⟨w2.drew, (Below.refl _ w2).drew⟩, rfl⟩ (fun hHeld => ?_)
  refine take_run 0 7 (v := ?_) rfl rfl (by kernel_rfl) (by kernel_rfl) (by kernel_rfl) (fun _ _ _ h => h) (by rfl) ?_ (by assumption) ?_
  rotate_left
  · (intro wq hSw; obtain ⟨pq, rfl⟩ := hSw; go_simp; first | done | with_reducible rfl)
  simp only [Act.put, List.setIfInBounds_toArray, List.set_cons_zero, List.set_cons_succ]
  refine take_run 1 8 (v := ?_) rfl rfl (by kernel_rfl) (by kernel_rfl) (by kernel_rfl) (fun _ _ _ h => h) (by rfl) ?_ (by assumption) ?_
  rotate_left
  · (intro wq hSw; obtain ⟨pq, rfl⟩ := hSw; go_simp; first | done | with_reducible rfl)
  simp only [Act.put, List.setIfInBounds_toArray, List.set_cons_zero, List.set_cons_succ]
  refine take_run 3 10 (v := ?_) rfl rfl (by kernel_rfl) (by kernel_rfl) (by kernel_rfl) (fun _ _ _ h => h) (by rfl) ?_ (by assumption) ?_
  rotate_left
  · (intro wq hSw; obtain ⟨pq, rfl⟩ := hSw; go_simp; first | done | with_reducible rfl)
  simp only [Act.put, List.setIfInBounds_toArray, List.set_cons_zero, List.set_cons_succ]
  refine take_run 4 11 (v := ?_) rfl rfl (by kernel_rfl) (by kernel_rfl) (by kernel_rfl) (fun _ _ _ h => h) (by rfl) ?_ (by assumption) ?_
  rotate_left
  · (intro wq hSw; obtain ⟨pq, rfl⟩ := hSw; go_simp; first | done | with_reducible rfl)
  simp only [Act.put, List.setIfInBounds_toArray, List.set_cons_zero, List.set_cons_succ]
  refine take_run 5 12 (v := ?_) rfl rfl (by kernel_rfl) (by kernel_rfl) (by kernel_rfl) (fun _ _ _ h => h) (by rfl) ?_ (by assumption) ?_
  rotate_left
  · (intro wq hSw; obtain ⟨pq, rfl⟩ := hSw; go_simp; first | done | with_reducible rfl)
  simp only [Act.put, List.setIfInBounds_toArray, List.set_cons_zero, List.set_cons_succ]
  refine take_run 6 13 (v := ?_) rfl rfl (by kernel_rfl) (by kernel_rfl) (by kernel_rfl) (fun _ _ _ h => h) (by rfl) ?_ (by assumption) ?_
  rotate_left
  · (intro wq hSw; obtain ⟨pq, rfl⟩ := hSw; go_simp; first | done | with_reducible rfl)
  simp only [Act.put, List.setIfInBounds_toArray, List.set_cons_zero, List.set_cons_succ]
  refine take_run 7 14 (v := ?_) rfl rfl (by kernel_rfl) (by kernel_rfl) (by kernel_rfl) (fun _ _ _ h => h) (by rfl) ?_ (by assumption) ?_
  rotate_left
  · (intro wq hSw; obtain ⟨pq, rfl⟩ := hSw; go_simp; first | done | with_reducible rfl)
  simp only [Act.put, List.setIfInBounds_toArray, List.set_cons_zero, List.set_cons_succ]
  refine take_run 8 15 (v := ?_) rfl rfl (by kernel_rfl) (by kernel_rfl) (by kernel_rfl) (fun _ _ _ h => h) (by rfl) ?_ (by assumption) ?_
  rotate_left
  · (intro wq hSw; obtain ⟨pq, rfl⟩ := hSw; go_simp; first | done | with_reducible rfl)
  simp only [Act.put, List.setIfInBounds_toArray, List.set_cons_zero, List.set_cons_succ]
  refine take_run 9 16 (v := ?_) rfl rfl (by kernel_rfl) (by kernel_rfl) (by kernel_rfl) (fun _ _ _ h => h) (by rfl) ?_ (by assumption) ?_
  rotate_left
  · (intro wq hSw; obtain ⟨pq, rfl⟩ := hSw; go_simp; first | done | with_reducible rfl)
  simp only [Act.put, List.setIfInBounds_toArray, List.set_cons_zero, List.set_cons_succ]
  refine take_run 10 17 (v := ?_) rfl rfl (by kernel_rfl) (by kernel_rfl) (by kernel_rfl) (fun _ _ _ h => h) (by rfl) ?_ (by assumption) ?_
  rotate_left
  · (intro wq hSw; obtain ⟨pq, rfl⟩ := hSw; go_simp; first | done | with_reducible rfl)
  simp only [Act.put, List.setIfInBounds_toArray, List.set_cons_zero, List.set_cons_succ]
  refine take_run 11 18 (v := ?_) rfl rfl (by kernel_rfl) (by kernel_rfl) (by kernel_rfl) (fun _ _ _ h => h) (by rfl) ?_ (by assumption) ?_
  rotate_left
  · (intro wq hSw; obtain ⟨pq, rfl⟩ := hSw; go_simp; first | done | with_reducible rfl)
  simp only [Act.put, List.setIfInBounds_toArray, List.set_cons_zero, List.set_cons_succ]
  refine take_run 12 19 (v := ?_) rfl rfl (by kernel_rfl) (by kernel_rfl) (by kernel_rfl) (fun _ _ _ h => h) (by rfl) ?_ (by assumption) ?_
  rotate_left
  · (intro wq hSw; obtain ⟨pq, rfl⟩ := hSw; go_simp; first | done | with_reducible rfl)
  simp only [Act.put, List.setIfInBounds_toArray, List.set_cons_zero, List.set_cons_succ]
  refine wpAnyH_ready (rs := [2, 13]) (by kernel_rfl) (by simp) ?_
  refine AllReadyH.cons rfl (fun K hK => ?_) (AllReadyH.cons rfl (fun K hK => ?_) AllReadyH.nil)
  · go_simp
    refine (smarkOf_says w2.drew g hg).mono ?_
    rintro r3 w3 ⟨rfl, hb3⟩
    have hb3 : Below w2.heap.size w2 w3 := ⟨hb3.os, hb3.tape, hb3.output, hb3.size, hb3.block⟩
    refine hK.out _ _ ⟨⟨w3, hb3⟩, rfl⟩ (fun hHeld => ?_)
    clear hK K
    try simp only [Act.put, List.setIfInBounds_toArray, List.set_cons_zero, List.set_cons_succ]
    refine wpAnyH_ready (rs := [13]) (by kernel_rfl) (by simp) ?_
    refine AllReadyH.cons rfl (fun K hK => ?_) AllReadyH.nil
    obtain ⟨w4, hw4⟩ : ∃ x, w3.alloc (.cells #[.int .u64 (e : Int), .int .u64 (p : Int), .int .u64 (s : Int), .int .u64 (lg : Int)] 34) = x := ⟨_, rfl⟩
    have hb4 : Below w2.heap.size w2 w4 := hb3.trans (by rw [← hw4]; exact ((Below.refl _ w3).alloc (Nat.le_refl _) _).mono hb3.size)
    have hx4 : Box w4 w3.heap.size 34 (Lay.nc [e, p, s, lg]).toArray := by rw [← hw4]; exact Box.made w3 _ _
    refine step_run (w' := w4) 20 (.slice (some ⟨w3.heap.size, 0, none⟩) 4 4) rfl rfl (by rw [← hw4]; go_simp; first | done | rfl) ?_
    refine hK.out _ _ ⟨⟨w4, hb4⟩, rfl⟩ (fun hHeld => ?_)
    clear hK K
    try simp only [Act.put, List.setIfInBounds_toArray, List.set_cons_zero, List.set_cons_succ]
    refine wpAnyH_ready (rs := [14]) (by kernel_rfl) (by simp) ?_
    refine AllReadyH.cons rfl (fun K hK => ?_) AllReadyH.nil
    go_simp
    have hU : Lay.Sl w4 w4.heap.size (.slice (some ⟨w3.heap.size, 0, none⟩) 4 4) (Lay.nc [e, p, s, lg]) := .inr ⟨⟨w3.heap.size, 0, none⟩, 4, rfl, fun j u hu => ⟨Box.lt hx4, by
      rw [Addr.add_mid, Nat.zero_add, Box.cell hx4]
      simpa [Lay.nc] using hu⟩⟩
    refine (Lay.putNumber_any (.slice none 0 0) (.slice (some ⟨w3.heap.size, 0, none⟩) 4 4) [] [e, p, s, lg] w4 (.inl ⟨rfl, rfl⟩) hU HN4.out (by simp)).mono ?_
    rintro r5 w5 ⟨v5, rfl, ho5, hb5⟩
    have hb5 := hb4.trans (hb5.mono hb4.size)
    have ho5' : Own w5 w4.heap.size v5 (Hd.bytes ⟨g, e, (p : Int), s, (lg : Int), hg, he, hs, hp, hl⟩) := by
      have e : ([] : List UInt8) ++ Lay.encNums [e, p, s, lg] = Hd.bytes ⟨g, e, (p : Int), s, (lg : Int), hg, he, hs, hp, hl⟩ := by simp [Lay.encNums, Hd.bytes]
      rw [e] at ho5
      exact ho5
    obtain ⟨A5, c5, rfl, hl5⟩ := ho5'.lies
    have hl5 := hl5.weak (N' := fun _ => True) (fun _ _ _ => trivial)
    refine hK.out _ _ ⟨⟨w5, hb5⟩, rfl⟩ (fun hHeld => ?_)
    clear hK K
    try simp only [Act.put, List.setIfInBounds_toArray, List.set_cons_zero, List.set_cons_succ]
    refine wpAnyH_ready (rs := [15]) (by kernel_rfl) (by simp) ?_
    refine AllReadyH.cons rfl (fun K hK => ?_) AllReadyH.nil
    go_simp
    refine (seal_yes w5 (mk9 g hg) rfl A5 _ c5 _ hl5 (Nat.le_trans (Hd.bytes_length _) (by omega))).mono ?_
    rintro r6 w6 ⟨g6, rfl, hg6, hx6, hb6⟩
    have hb6 := hb5.trans (hb6.mono hb5.size)
    refine hK.out _ _ ⟨⟨w6, hb6⟩, rfl⟩ (fun hHeld => ?_)
    clear hK K
    have HZ := Lib.hid (And.intro hx6 (HB.out.trans (hb6.mono HB.out.size)))
    have hgz : w.heap.size ≤ g6 := Nat.le_trans HB.out.size (Nat.le_trans hb5.size hg6)
    try simp only [Act.put, List.setIfInBounds_toArray, List.set_cons_zero, List.set_cons_succ]
    refine take_run 16 23 (v := ?_) rfl rfl (by kernel_rfl) (by kernel_rfl) (by kernel_rfl) (fun _ _ _ h => h) (by rfl) ?_ (by assumption) ?_
    rotate_left
    · (intro wq hSw; obtain ⟨pq, rfl⟩ := hSw; go_simp; first | done | with_reducible rfl)
    simp only [Act.put, List.setIfInBounds_toArray, List.set_cons_zero, List.set_cons_succ]
    refine take_run 17 24 (v := ?_) rfl rfl (by kernel_rfl) (by kernel_rfl) (by kernel_rfl) (fun _ _ _ h => h) (by rfl) ?_ (by assumption) ?_
    rotate_left
    · (intro wq hSw; obtain ⟨pq, rfl⟩ := hSw; go_simp; first | done | with_reducible rfl)
    simp only [Act.put, List.setIfInBounds_toArray, List.set_cons_zero, List.set_cons_succ]
    refine take_run 18 2 (v := ?_) rfl rfl (by kernel_rfl) (by kernel_rfl) (by kernel_rfl) (fun _ _ _ h => h) (by rfl) ?_ (by assumption) ?_
    rotate_left
    · (intro wq hSw; obtain ⟨pq, rfl⟩ := hSw; go_simp; first | done | with_reducible rfl)
    simp only [Act.put, List.setIfInBounds_toArray, List.set_cons_zero, List.set_cons_succ]
    refine take_run 19 3 (v := ?_) rfl rfl (by kernel_rfl) (by kernel_rfl) (by kernel_rfl) (fun _ _ _ h => h) (by rfl) ?_ (by assumption) ?_
    rotate_left
    · (intro wq hSw; obtain ⟨pq, rfl⟩ := hSw; go_simp; first | done | with_reducible rfl)
    simp only [Act.put, List.setIfInBounds_toArray, List.set_cons_zero, List.set_cons_succ]
    refine wpAnyH_done (by kernel_rfl) ?_ _
    clear hHeld hb6 hb5 hl5 ho5 ho5' hU hb4 hx4
    go_wp2
    go_ret2
    exact ⟨g6, rfl, hgz, HZ.out.1, HZ.out.2⟩
  · obtain ⟨w3, hw3⟩ : ∃ x, w2.drew.alloc (.cells #[.int .u64 (e : Int), .int .u64 (p : Int), .int .u64 (s : Int), .int .u64 (lg : Int)] 34) = x := ⟨_, rfl⟩
    have hb3 : Below w2.heap.size w2 w3 := by rw [← hw3]; exact (Below.refl _ w2).drew.alloc (Nat.le_refl _) _
    have hx3 : Box w3 w2.heap.size 34 (Lay.nc [e, p, s, lg]).toArray := by rw [← hw3]; exact Box.made w2.drew _ _
    refine step_run (w' := w3) 20 (.slice (some ⟨w2.heap.size, 0, none⟩) 4 4) rfl rfl (by rw [← hw3]; go_simp; first | done | rfl) ?_
    refine hK.out _ _ ⟨⟨w3, hb3⟩, rfl⟩ (fun hHeld => ?_)
    clear hK K
    try simp only [Act.put, List.setIfInBounds_toArray, List.set_cons_zero, List.set_cons_succ]
    refine wpAnyH_ready (rs := [2]) (by kernel_rfl) (by simp) ?_
    refine AllReadyH.cons rfl (fun K hK => ?_) AllReadyH.nil
    go_simp
    refine (smarkOf_says w3 g hg).mono ?_
    rintro r4 w4 ⟨rfl, hb4⟩
    have hx4 := Box.below hx3 hb4 hx3.lt
    have hb4 := hb3.trans (hb4.mono hb3.size)
    refine hK.out _ _ ⟨⟨w4, hb4⟩, rfl⟩ (fun hHeld => ?_)
    clear hK K
    try simp only [Act.put, List.setIfInBounds_toArray, List.set_cons_zero, List.set_cons_succ]
    refine wpAnyH_ready (rs := [14]) (by kernel_rfl) (by simp) ?_
    refine AllReadyH.cons rfl (fun K hK => ?_) AllReadyH.nil
    go_simp
    have hU : Lay.Sl w4 w4.heap.size (.slice (some ⟨w2.heap.size, 0, none⟩) 4 4) (Lay.nc [e, p, s, lg]) := .inr ⟨⟨w2.heap.size, 0, none⟩, 4, rfl, fun j u hu => ⟨Box.lt hx4, by
      rw [Addr.add_mid, Nat.zero_add, Box.cell hx4]
      simpa [Lay.nc] using hu⟩⟩
    refine (Lay.putNumber_any (.slice none 0 0) (.slice (some ⟨w2.heap.size, 0, none⟩) 4 4) [] [e, p, s, lg] w4 (.inl ⟨rfl, rfl⟩) hU HN4.out (by simp)).mono ?_
    rintro r5 w5 ⟨v5, rfl, ho5, hb5⟩
    have hb5 := hb4.trans (hb5.mono hb4.size)
    have ho5' : Own w5 w4.heap.size v5 (Hd.bytes ⟨g, e, (p : Int), s, (lg : Int), hg, he, hs, hp, hl⟩) := by
      have e : ([] : List UInt8) ++ Lay.encNums [e, p, s, lg] = Hd.bytes ⟨g, e, (p : Int), s, (lg : Int), hg, he, hs, hp, hl⟩ := by simp [Lay.encNums, Hd.bytes]
      rw [e] at ho5
      exact ho5
    obtain ⟨A5, c5, rfl, hl5⟩ := ho5'.lies
    have hl5 := hl5.weak (N' := fun _ => True) (fun _ _ _ => trivial)
    refine hK.out _ _ ⟨⟨w5, hb5⟩, rfl⟩ (fun hHeld => ?_)
    clear hK K
    try simp only [Act.put, List.setIfInBounds_toArray, List.set_cons_zero, List.set_cons_succ]
    refine wpAnyH_ready (rs := [15]) (by kernel_rfl) (by simp) ?_
    refine AllReadyH.cons rfl (fun K hK => ?_) AllReadyH.nil
    go_simp
    refine (seal_yes w5 (mk9 g hg) rfl A5 _ c5 _ hl5 (Nat.le_trans (Hd.bytes_length _) (by omega))).mono ?_
    rintro r6 w6 ⟨g6, rfl, hg6, hx6, hb6⟩
    have hb6 := hb5.trans (hb6.mono hb5.size)
    refine hK.out _ _ ⟨⟨w6, hb6⟩, rfl⟩ (fun hHeld => ?_)
    clear hK K
    have HZ := Lib.hid (And.intro hx6 (HB.out.trans (hb6.mono HB.out.size)))
    have hgz : w.heap.size ≤ g6 := Nat.le_trans HB.out.size (Nat.le_trans hb5.size hg6)
    try simp only [Act.put, List.setIfInBounds_toArray, List.set_cons_zero, List.set_cons_succ]
    refine take_run 16 23 (v := ?_) rfl rfl (by kernel_rfl) (by kernel_rfl) (by kernel_rfl) (fun _ _ _ h => h) (by rfl) ?_ (by assumption) ?_
    rotate_left
    · (intro wq hSw; obtain ⟨pq, rfl⟩ := hSw; go_simp; first | done | with_reducible rfl)
    simp only [Act.put, List.setIfInBounds_toArray, List.set_cons_zero, List.set_cons_succ]
    refine take_run 17 24 (v := ?_) rfl rfl (by kernel_rfl) (by kernel_rfl) (by kernel_rfl) (fun _ _ _ h => h) (by rfl) ?_ (by assumption) ?_
    rotate_left
    · (intro wq hSw; obtain ⟨pq, rfl⟩ := hSw; go_simp; first | done | with_reducible rfl)
    simp only [Act.put, List.setIfInBounds_toArray, List.set_cons_zero, List.set_cons_succ]
    refine take_run 18 2 (v := ?_) rfl rfl (by kernel_rfl) (by kernel_rfl) (by kernel_rfl) (fun _ _ _ h => h) (by rfl) ?_ (by assumption) ?_
    rotate_left
    · (intro wq hSw; obtain ⟨pq, rfl⟩ := hSw; go_simp; first | done | with_reducible rfl)
    simp only [Act.put, List.setIfInBounds_toArray, List.set_cons_zero, List.set_cons_succ]
    refine take_run 19 3 (v := ?_) rfl rfl (by kernel_rfl) (by kernel_rfl) (by kernel_rfl) (fun _ _ _ h => h) (by rfl) ?_ (by assumption) ?_
    rotate_left
    · (intro wq hSw; obtain ⟨pq, rfl⟩ := hSw; go_simp; first | done | with_reducible rfl)
    simp only [Act.put, List.setIfInBounds_toArray, List.set_cons_zero, List.set_cons_succ]
    refine wpAnyH_done (by kernel_rfl) ?_ _
    clear hHeld hb6 hb5 hl5 ho5 ho5' hU hb4 hx4
    go_wp2
    go_ret2
    exact ⟨g6, rfl, hgz, HZ.out.1, HZ.out.2⟩
end Go.Proofs.YtnhondkdkjehaaaGreat
