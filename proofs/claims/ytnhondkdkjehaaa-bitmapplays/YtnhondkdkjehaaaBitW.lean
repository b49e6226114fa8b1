/-
  With, Without, Of of package bitmap.
-/
import Derived.Test.YtnhondkdkjehaaaBitU
import Derived.Test.YtnhondkdkjehaaaSteps
import Derived.Test.YtnhondkdkjehaaaCopyB
import Derived.Deep.DeepCutAuto
import Derived.Deep.CutBlock
namespace Go.Proofs.Ytnhondkdkjehaaa
open Go.RowKit

set_option linter.unusedVariables false
set_option linter.unusedSimpArgs false
/-- One byte of a row of the call's own is put. -/
theorem Own.put {w : World} {B : Nat} {v : Value} {l : List UInt8} (h : Own w B v l) {i g c n : Nat} (hv : v = .slice (some ⟨g, 0, none⟩) n c) (hi : i < l.length) (z : UInt8) : Own (w.setCell ⟨g, i, none⟩ (.int .u8 (z.toNat : Int))) B v (l.set i z) := by
  obtain ⟨h1, h2 | ⟨g', cap, cur, h2, h3, h4, h5, h6, h7, h8⟩⟩ := h
  · omega
  · rw [hv] at h2
    injection h2 with e1 e2 e3
    injection e1 with e1
    injection e1 with e1
    subst e1 e2 e3 hv
    refine ⟨by rw [bc_length, List.length_set, Nat.mul_one], .inr ⟨g, c, cur.setIfInBounds i (.int .u8 (z.toNat : Int)), by rw [List.length_set], h3, Box.put (show Box w g 5 cur from h4) i _, by rw [List.length_set]; exact h5, h6, by rw [Array.size_setIfInBounds]; exact h7, ?_⟩⟩
    rw [List.length_set, Nat.mul_one] at *
    rw [Array.toList_setIfInBounds, List.take_set, h8]
    unfold bc
    rw [List.map_set]
/-- A result that is not stored yet, and bits at a place of their own. -/
structure SB (w0 w : World) (gr gs n : Nat) (x : Value) (l : List UInt8) : Prop where
  res : Box w gr 25 #[.int .i64 0, .slice none 0 0]
  bits : Box w gs 25 #[.int .i64 (n : Int), x]
  own : Own w w0.heap.size x l
  bel : Below w0.heap.size w0 w
  hi : w0.heap.size ≤ gr
section
variable {w0 w w' : World} {gr gs n : Nat} {x : Value} {l : List UInt8}
theorem SB.below (h : SB w0 w gr gs n x l) (hb : Below w.heap.size w w') : SB w0 w' gr gs n x l :=
  ⟨h.res.below hb h.res.lt, h.bits.below hb h.bits.lt, h.own.below hb, h.bel.trans (hb.mono h.bel.size), h.hi⟩
theorem SB.drew (h : SB w0 w gr gs n x l) : SB w0 w.drew gr gs n x l := ⟨h.res, h.bits, h.own, ⟨h.bel.os, h.bel.tape, h.bel.output, h.bel.size, h.bel.block⟩, h.hi⟩
theorem SB.put (h : SB w0 w gr gs n x l) {i g c k : Nat} (hv : x = .slice (some ⟨g, 0, none⟩) k c) (hi : i < l.length) (z : UInt8) : SB w0 (w.setCell ⟨g, i, none⟩ (.int .u8 (z.toNat : Int))) gr gs n x (l.set i z) := by
  have n1 := Box.apart h.res h.own (by decide)
  have n2 := Box.apart h.bits h.own (by decide)
  subst hv
  have hg : w.grownBy (w.setCell ⟨g, i, none⟩ (.int .u8 (z.toNat : Int))) (some g) := grown_set (grown_refl _ _) _ _
  have hbg : w0.heap.size ≤ g := (World.ownsRow.lt h.own g rfl).1
  exact ⟨h.res.grown hg (fun e => n1 e.symm), h.bits.grown hg (fun e => n2 e.symm), h.own.put rfl hi z, below_grown h.bel hg hbg h.bel.size, h.hi⟩
end
set_option maxRecDepth 100000 in
set_option maxHeartbeats 4000000 in
theorem bcopied_says (w : World) (B n : Nat) (x : Value) (l : List UInt8) (h : Own w B x l) (hB : B ≤ w.heap.size) (h1 : l.length ≤ 4096) : Calls Try.prog 20 #[.agg #[.int .i64 (n : Int), x]] w fun e w' => ∃ v', e = .returned (.agg #[.int .i64 (n : Int), v']) ∧ Own w' w.heap.size v' l ∧ Below w.heap.size w w' := by
  obtain ⟨w1, hw1⟩ : ∃ y, w.alloc (.cells #[.int .i64 (n : Int), x] 25) = y := ⟨_, rfl⟩
  have hx1 : Box w1 w.heap.size 25 #[.int .i64 (n : Int), x] := by rw [← hw1]; exact Box.made w _ _
  have hB1 : Below w.heap.size w w1 := by rw [← hw1]; exact (Below.refl _ w).alloc (Nat.le_refl _) _
  obtain ⟨w2, hw2⟩ : ∃ y, w1.alloc (.cells #[.int .i64 0, .slice none 0 0] 25) = y := ⟨_, rfl⟩
  have hB2 : Below w1.heap.size w1 w2 := by rw [← hw2]; exact (Below.refl _ w1).alloc (Nat.le_refl _) _
  have hr2 : Box w2 w1.heap.size 25 #[.int .i64 0, .slice none 0 0] := by rw [← hw2]; exact Box.made w1 _ _
  have hx2 := hx1.below hB2 hx1.lt
  have d0 : w2.drew.cell? ⟨w.heap.size, 0, none⟩ = some (.int .i64 (n : Int)) := (Box.cell hx2 0).trans rfl
  have d1 : w2.drew.cell? ⟨w.heap.size, 1, none⟩ = some x := (Box.cell hx2 1).trans rfl
  have hb2 : Below w.heap.size w w2 := hB1.trans (hB2.mono hB1.size)
  have HX := Lib.hid (And.intro hr2 (And.intro hx2 (And.intro ((h.below hB1).below hB2) hb2)))
  have hlt : w.heap.size < w1.heap.size := hx1.lt
  clear h hx1 hB1 hB2 hr2 hx2 hb2
  go_enter Try.func20, Try.ntmps20
  go_upto_region 1 with fail
  rename_i KX kx
  have KK := Lib.hid kx
  clear kx
  refine wp_region_held_drew (S := fun u => u.cell? ⟨w.heap.size, 0, none⟩ = some (.int .i64 (n : Int)) ∧ u.cell? ⟨w.heap.size, 1, none⟩ = some x) (by kernel_rfl) ⟨d0, d1⟩ (fun hHeld => ?_)
  refine take_run 0 3 (v := ?_) rfl rfl (by kernel_rfl) (by kernel_rfl) (by kernel_rfl) (fun _ _ _ h => h) (by rfl) ?_ (by assumption) ?_
  rotate_left
  · (intro wq hSw; obtain ⟨hS1, hS2⟩ := hSw; go_simp; first | done | with_reducible rfl)
  simp only [Act.put, List.setIfInBounds_toArray, List.set_cons_zero, List.set_cons_succ]
  refine take_run 1 4 (v := ?_) rfl rfl (by kernel_rfl) (by kernel_rfl) (by kernel_rfl) (fun _ _ _ h => h) (by rfl) ?_ (by assumption) ?_
  rotate_left
  · (intro wq hSw; obtain ⟨hS1, hS2⟩ := hSw; go_simp; first | done | with_reducible rfl)
  simp only [Act.put, List.setIfInBounds_toArray, List.set_cons_zero, List.set_cons_succ]
  refine take_run 2 5 (v := ?_) rfl rfl (by kernel_rfl) (by kernel_rfl) (by kernel_rfl) (fun _ _ _ h => h) (by rfl) ?_ (by assumption) ?_
  rotate_left
  · (intro wq hSw; obtain ⟨hS1, hS2⟩ := hSw; go_simp; first | done | with_reducible rfl)
  simp only [Act.put, List.setIfInBounds_toArray, List.set_cons_zero, List.set_cons_succ]
  refine take_run 3 6 (v := ?_) rfl rfl (by kernel_rfl) (by kernel_rfl) (by kernel_rfl) (fun _ _ _ h => h) (by rfl) ?_ (by assumption) ?_
  rotate_left
  · (intro wq hSw; obtain ⟨hS1, hS2⟩ := hSw; go_simp; first | done | with_reducible rfl)
  simp only [Act.put, List.setIfInBounds_toArray, List.set_cons_zero, List.set_cons_succ]
  clear hHeld
  refine wpAnyH_ready (rs := [4]) (by kernel_rfl) (by simp) ?_
  refine AllReadyH.cons rfl (fun K hK => ?_) AllReadyH.nil
  go_simp
  refine (bclone_says w2.drew B x l HX.out.2.2.1 (Nat.le_trans hB HX.out.2.2.2.size) h1).mono ?_
  rintro e w3 ⟨v', rfl, ho3, hb3⟩
  obtain ⟨A', c', hv', _⟩ := ho3.lies
  subst hv'
  have hb3' : Below w2.heap.size w2 w3 := ⟨hb3.os, hb3.tape, hb3.output, hb3.size, hb3.block⟩
  have hr3 := Box.below HX.out.1 hb3' HX.out.1.lt
  have hx3 := Box.below HX.out.2.1 hb3' HX.out.2.1.lt
  have H3 := Lib.hid (And.intro (show Own w3 w.heap.size (.slice A' l.length c') l from ho3.base HX.out.2.2.2.size) (And.intro hr3 (HX.out.2.2.2.trans (hb3'.mono HX.out.2.2.2.size))))
  clear ho3 hb3 hb3' hr3
  refine hK.out _ _ ⟨(Box.cell hx3 0).trans rfl, (Box.cell hx3 1).trans rfl⟩ (fun hHeld => ?_)
  clear hK K
  try simp only [Act.put, List.setIfInBounds_toArray, List.set_cons_zero, List.set_cons_succ]
  refine take_run 5 8 (v := ?_) rfl rfl (by kernel_rfl) (by kernel_rfl) (by kernel_rfl) (fun _ _ _ h => h) (by rfl) ?_ (by assumption) ?_
  rotate_left
  · (intro wq hSw; obtain ⟨hS1, hS2⟩ := hSw; go_simp; first | done | with_reducible rfl)
  simp only [Act.put, List.setIfInBounds_toArray, List.set_cons_zero, List.set_cons_succ]
  clear hHeld
  refine wpAnyH_ready (rs := [6]) (by kernel_rfl) (by simp) ?_
  refine AllReadyH.cons rfl (fun K hK => ?_) AllReadyH.nil
  refine step_store_within 25 _ _ rfl rfl w1.heap.size 0 #[.int .i64 (n : Int), (.slice A' l.length c')] rfl rfl 25 #[.int .i64 0, .slice none 0 0] H3.out.2.1 (by simp) bitsInfo (by simp [Value.oneCell']) ?_
  obtain ⟨w4, hw4⟩ : ∃ y, w3.setRow w1.heap.size #[.int .i64 (n : Int), (.slice A' l.length c')] = y := ⟨_, rfl⟩
  have hm4 : Box w4 w1.heap.size 25 #[.int .i64 (n : Int), (.slice A' l.length c')] := by rw [← hw4]; exact setRow_heap _ _ _ _ _ _ H3.out.2.1
  have hg4 : w3.grownBy w4 (some w1.heap.size) := by rw [← hw4]; exact grown_row (grown_refl _ _) _
  have ho4 := H3.out.1.grown hg4 (Box.apart H3.out.2.1 H3.out.1 (by decide))
  have hb4 : Below w.heap.size w w4 := below_grown H3.out.2.2 hg4 (by omega) H3.out.2.2.size
  have hx4 := Box.grown hx3 hg4 (by simp only [Option.some.injEq, ne_eq]; omega)
  have hrw : ((#[.int .i64 0, .slice none 0 0] : Array Value).toList.take 0 ++ (#[.int .i64 (n : Int), (.slice A' l.length c')] : Array Value).toList ++ (#[.int .i64 0, .slice none 0 0] : Array Value).toList.drop (0 + (#[.int .i64 (n : Int), (.slice A' l.length c')] : Array Value).size)).toArray = #[.int .i64 (n : Int), (.slice A' l.length c')] := rfl
  rw [hrw, hw4]
  refine hK.out _ _ ⟨(Box.cell hx4 0).trans rfl, (Box.cell hx4 1).trans rfl⟩ (fun hHeld => ?_)
  clear hK K
  try simp only [Act.put, List.setIfInBounds_toArray, List.set_cons_zero, List.set_cons_succ]
  have HZ := Lib.hid (And.intro ho4 hb4)
  have e0 := (Box.cell hm4 0).trans rfl
  have e1 := (Box.cell hm4 1).trans rfl
  clear hw4 hm4 hg4 ho4 hb4 hx4 hrw H3 hx3 hHeld d0 d1 HX
  refine wpAnyH_done (by kernel_rfl) ?_ _
  refine KK.out _ _ ?_
  clear KK KX
  go_wp2_with fail
  exact bodyPost_ret (v := .agg #[.int .i64 (n : Int), (.slice A' l.length c')]) (by simp [results, Try.results20, go_sem, e0, e1]) rfl ⟨_, rfl, HZ.out.1, HZ.out.2⟩
end Go.Proofs.Ytnhondkdkjehaaa
