/-
  The head that is saved once no place is to be in use any more.
-/
import Derived.Test.YtnhondkdkjehaaaGreatJSm
namespace Go.Proofs.YtnhondkdkjehaaaGreat
open Go.RowKit

set_option linter.unusedVariables false
set_option linter.unusedSimpArgs false
section
variable {w : World} {p dp : Nat} {K : Nat → Prop} {D : Dv} {L : Lg} {u : Value × Value}
theorem Lg.behind_right {n : Int} (hL : L.Ok) (hg : L.h.gen < 18446744073709551615) (hr : L.h.rightB n = true) (h1 : L.h.gen < 4611686018427387904) (h2 : 1 ≤ L.seq ∧ L.seq ≤ 4611686018427387904) : (L.behind hL hg).rightB n = true := by
  rw [Hd.right_iff] at hr ⊢
  obtain ⟨a1, a2, a3, a4, a5, a6, a7⟩ := hr
  have := Nat.mod_lt (L.h.pos.toNat + L.used) (y := L.h.log.toNat) (by omega)
  refine ⟨?_, a2, h2, a4, a5, ?_, ?_⟩
  · show 1 ≤ L.h.gen + 1 ∧ L.h.gen + 1 ≤ _
    omega
  · show (0 : Int) ≤ (((L.h.pos.toNat + L.used) % L.h.log.toNat : Nat) : Int)
    omega
  · show (((L.h.pos.toNat + L.used) % L.h.log.toNat : Nat) : Int) < L.h.log
    omega
theorem lg_range (hb : Box w p 81 (lc dp u L)) : w.rangeAt p 1 (hvl L.h) := fun j v hj => by
  rw [Box.cell hb]
  match j, hj with
  | 0, hj => simpa [lc, hvl] using hj
  | 1, hj => simpa [lc, hvl] using hj
  | 2, hj => simpa [lc, hvl] using hj
  | 3, hj => simpa [lc, hvl] using hj
  | 4, hj => simpa [lc, hvl] using hj
  | j + 5, hj => simp [hvl] at hj
set_option maxRecDepth 100000 in
set_option maxHeartbeats 4000000 in
theorem jbehind_says (hb : Box w p 81 (lc dp u L)) (hL : L.Ok) (hg : L.h.gen < 18446744073709551615) :
    Calls Tryz.prog 43 #[.pointer (some ⟨p, 0, none⟩)] w fun e w' => e = .returned (.agg (hv (L.behind hL hg))) ∧ Below w.heap.size w w' := by
  obtain ⟨N, hN⟩ : ∃ N, L.behind hL hg = N := ⟨_, rfl⟩
  have n0 : (L.h.gen : Int) + 1 = (N.gen : Int) := by rw [← hN]; rfl
  have n1 : L.h.epoch = N.epoch := by rw [← hN]; rfl
  have n2 : N.pos = (((L.h.pos.toNat + L.used) % L.h.log.toNat : Nat) : Int) := by rw [← hN]; rfl
  have n3 : L.seq = N.seq := by rw [← hN]; rfl
  have n4 : L.h.log = N.log := by rw [← hN]; rfl
  rw [hN]
  have n2' : (L.h.pos + L.used).tmod L.h.log = N.pos := by
    have h0 := place_int hL 0
    unfold Lg.place at h0
    rw [n2]
    simp only [Int.natCast_zero, Int.add_zero, Nat.add_zero] at h0
    omega
  have hNg := N.hg
  obtain ⟨w1, hw1⟩ : ∃ x, w.alloc (.cells #[.int .u64 0, .int .u64 0, .int .i64 0, .int .u64 0, .int .i64 0] 78) = x := ⟨_, rfl⟩
  have hb1 : Below w.heap.size w w1 := by rw [← hw1]; exact (Below.refl _ w).alloc (Nat.le_refl _) _
  have hm1 : Box w1 w.heap.size 78 (hv Hd.zero) := by rw [← hw1]; exact Box.made w _ _
  obtain ⟨w2, hw2⟩ : ∃ x, w1.alloc (.cells #[.int .u64 0, .int .u64 0, .int .i64 0, .int .u64 0, .int .i64 0] 78) = x := ⟨_, rfl⟩
  have hb2 : Below w1.heap.size w1 w2 := by rw [← hw2]; exact (Below.refl _ w1).alloc (Nat.le_refl _) _
  have hm2 : Box w2 w1.heap.size 78 (hv Hd.zero) := by rw [← hw2]; exact Box.made w1 _ _
  obtain ⟨w3, hw3⟩ : ∃ x, w2.setRow w1.heap.size (hv L.h) = x := ⟨_, rfl⟩
  have hm3 : Box w3 w1.heap.size 78 (hv L.h) := by rw [← hw3]; exact setRow_heap _ _ _ _ _ _ hm2
  have hb3 : Below w1.heap.size w1 w3 := hb2.trans (by rw [← hw3]; exact (Below.refl _ w2).grown (grown_row (grown_refl _ (some w1.heap.size)) _) hb2.size (fun k e => by injection e with e; omega))
  obtain ⟨w4, hw4⟩ : ∃ x, w3.setCell ⟨w1.heap.size, 0, none⟩ (.int .u64 (N.gen : Int)) = x := ⟨_, rfl⟩
  have hm4 : Box w4 w1.heap.size 78 #[.int .u64 (N.gen : Int), .int .u64 (L.h.epoch : Int), .int .i64 L.h.pos, .int .u64 (L.h.seq : Int), .int .i64 L.h.log] := by rw [← hw4]; have := Box.put hm3 0 (.int .u64 (N.gen : Int)); simpa [hv] using this
  have hb4 : Below w1.heap.size w1 w4 := hb3.trans (by rw [← hw4]; exact (Below.refl _ w3).grown (grown_set (grown_refl _ (some w1.heap.size)) _ _) hb3.size (fun k e => by injection e with e; omega))
  obtain ⟨w5, hw5⟩ : ∃ x, w4.drew.setCell ⟨w1.heap.size, 2, none⟩ (.int .i64 N.pos) = x := ⟨_, rfl⟩
  have hm5 : Box w5 w1.heap.size 78 #[.int .u64 (N.gen : Int), .int .u64 (L.h.epoch : Int), .int .i64 N.pos, .int .u64 (L.h.seq : Int), .int .i64 L.h.log] := by rw [← hw5]; have := Box.put (w := w4.drew) hm4 2 (.int .i64 N.pos); simpa using this
  have hb5 : Below w1.heap.size w1 w5 := hb4.drew.trans (by rw [← hw5]; exact (Below.refl _ w4.drew).grown (grown_set (grown_refl _ (some w1.heap.size)) _ _) hb4.size (fun k e => by injection e with e; omega))
  obtain ⟨w6, hw6⟩ : ∃ x, w5.setCell ⟨w1.heap.size, 3, none⟩ (.int .u64 (L.seq : Int)) = x := ⟨_, rfl⟩
  have hm6 : Box w6 w1.heap.size 78 (hv N) := by
    rw [← hw6]
    have := Box.put hm5 3 (.int .u64 (L.seq : Int))
    simpa [hv, ← n1, ← n3, ← n4] using this
  have hb6 : Below w1.heap.size w1 w6 := hb5.trans (by rw [← hw6]; exact (Below.refl _ w5).grown (grown_set (grown_refl _ (some w1.heap.size)) _ _) hb5.size (fun k e => by injection e with e; omega))
  have hz6 : Box w6 w.heap.size 78 (hv Hd.zero) := Box.below hm1 hb6 hm1.lt
  obtain ⟨w7, hw7⟩ : ∃ x, w6.setRow w.heap.size (hv N) = x := ⟨_, rfl⟩
  have hm7 : Box w7 w.heap.size 78 (hv N) := by rw [← hw7]; exact setRow_heap _ _ _ _ _ _ hz6
  have hb7 : Below w.heap.size w w7 := (hb1.trans (hb6.mono hb1.size)).trans (by rw [← hw7]; exact (Below.refl _ w6).grown (grown_row (grown_refl _ (some w.heap.size)) _) (by have := hb1.size; have := hb6.size; omega) (fun k e => by injection e with e; omega))
  have hp1 := Box.below hb hb1 hb.lt
  have hpl : p < w1.heap.size := hp1.lt
  have HR1 := Lib.hid (lg_range hp1)
  have c0 : w3.cell? ⟨w1.heap.size, 0, none⟩ = some (.int .u64 (L.h.gen : Int)) := (Box.cell hm3 0).trans rfl
  have f0 := Box.frozen hm3 0
  have c2 : w4.drew.cell? ⟨w1.heap.size, 2, none⟩ = some (.int .i64 L.h.pos) := (Box.cell hm4 2).trans rfl
  have f2 : w4.drew.frozen? ⟨w1.heap.size, 2, none⟩ = false := Box.frozen hm4 2
  have c4 : w4.drew.cell? ⟨w1.heap.size, 4, none⟩ = some (.int .i64 L.h.log) := (Box.cell hm4 4).trans rfl
  have c6 : w4.drew.cell? ⟨p, 6, none⟩ = some (.int .i64 (L.used : Int)) := (Box.cell (Box.below hp1 hb4 hpl) 6).trans rfl
  have c7 : w5.cell? ⟨p, 7, none⟩ = some (.int .u64 (L.seq : Int)) := (Box.cell (Box.below hp1 hb5 hpl) 7).trans rfl
  have c3 : w5.cell? ⟨w1.heap.size, 3, none⟩ = some (.int .u64 (L.h.seq : Int)) := (Box.cell hm5 3).trans rfl
  have f3 := Box.frozen hm5 3
  have HM2 := Lib.hid hm2
  have HW3 := Lib.hid hw3
  have HR6 := Lib.hid (hd_range hm6)
  have HZ6 := Lib.hid hz6
  have HW7 := Lib.hid hw7
  have HW4 := Lib.hid hw4
  have n2e : (L.h.pos + L.used) % L.h.log = N.pos := by rw [← n2', Int.tmod_eq_emod_of_nonneg (by have := hL.pos0; omega)]
  have HW5 := Lib.hid (show (w4.setCell ⟨w1.heap.size, 2, none⟩ (.int .i64 ((L.h.pos + L.used) % L.h.log))).drew = w5 by rw [n2e, ← hw5]; rfl)
  have HW6 := Lib.hid hw6
  have e0 : w7.cell? ⟨w.heap.size, 0, none⟩ = some (.int .u64 (N.gen : Int)) := (Box.cell hm7 0).trans rfl
  have e1 : w7.cell? ⟨w.heap.size, 1, none⟩ = some (.int .u64 (N.epoch : Int)) := (Box.cell hm7 1).trans rfl
  have e2 : w7.cell? ⟨w.heap.size, 2, none⟩ = some (.int .i64 N.pos) := (Box.cell hm7 2).trans rfl
  have e3 : w7.cell? ⟨w.heap.size, 3, none⟩ = some (.int .u64 (N.seq : Int)) := (Box.cell hm7 3).trans rfl
  have e4 : w7.cell? ⟨w.heap.size, 4, none⟩ = some (.int .i64 N.log) := (Box.cell hm7 4).trans rfl
  have HB7 := Lib.hid hb7
  have q0 : IntKind.u64.wrap ((L.h.gen : Int) + 1) = (N.gen : Int) := by rw [n0, IntKind.wrap_u64]; omega
  obtain ⟨h1, h2, h3, h4, h5, h6, h7⟩ := hL
  have q1 : IntKind.i64.wrap (L.h.pos + L.used) = L.h.pos + L.used := IntWalk.i64_in _ (by omega)
  have hp := N.hp
  have q2 : IntKind.i64.wrap ((L.h.pos + L.used).tmod L.h.log) = N.pos := by rw [n2']; exact IntWalk.i64_in _ hp
  have q5 : L.h.log ≠ 0 := by omega
  have q6 : (L.h.log == 0) = false := by simp; omega
  clear hm1 hm2 hm3 hm4 hm5 hm6 hm7 hb1 hb2 hb3 hb4 hb5 hb6 hb7 hz6 hp1 hw3 hw4 hw5 hw6 hw7 n2e n0 n1 n2 n2' n3 n4 hN hb hNg
  go_enter Tryz.func43, Tryz.ntmps43
  go_upto_region 2 with (first
    | (refine wpList_load_mid rfl 78 _ rfl p 1 rfl (hvl L.h) _ HR1.out Tryz.underlying78 rfl (by kernel_rfl) ?_)
    | (refine wpList_store_row rfl 78 _ _ rfl w1.heap.size (hv L.h) rfl rfl 78 _ HM2.out (by rw [hv_size]; exact hdInfo) rfl (hv_one _) ?_; rw [HW3.out]))
  go_upto_region 3 with fail
  rw [HW4.out]
  go_still_tail 11, (by kernel_rfl)
  change wpList _ _ _ _ _ w4.drew
  go_upto_region 4 with fail
  rw [HW5.out]
  go_upto_region 5 with fail
  rw [HW6.out]
  go_wp2_with (first
    | (refine wpList_load_mid rfl 78 _ rfl w1.heap.size 0 rfl (hvl N) _ HR6.out Tryz.underlying78 rfl (by kernel_rfl) ?_)
    | (refine wpList_store_row rfl 78 _ _ rfl w.heap.size (hv N) rfl rfl 78 _ HZ6.out (by rw [hv_size]; exact hdInfo) rfl (hv_one _) ?_; rw [HW7.out]))
  exact bodyPost_ret (v := .agg (hv N)) (by simp [results, Tryz.results43, go_sem, e0, e1, e2, e3, e4, hv]) rfl ⟨rfl, HB7.out⟩
end
end Go.Proofs.YtnhondkdkjehaaaGreat
